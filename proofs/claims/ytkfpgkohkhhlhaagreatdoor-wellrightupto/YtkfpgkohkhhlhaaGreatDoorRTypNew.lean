/-
  typing.New.
  typing.New where it is handed no book, or other many types than Vars; and New at all.
  slices.Contains of texts.
-/
import Derived.Test.YtkfpgkohkhhlhaaGreatDoorRTypKindR
import Derived.Test.YtkfpgkohkhhlhaaGreatDoorRPatNamed
import Derived.Test.YtkfpgkohkhhlhaaGreatDoorRSchTwice
import Derived.Test.YtkfpgkohkhhlhaaGreatDoorRExprSort
import Derived.Test.YtkfpgkohkhhlhaaGreatDoorRValOrder
import Derived.WalkKit
import Derived.Deep.QuietTactic
namespace Go.Proofs.YtkfpgkohkhhlhaaGreatDoor
open Go.RowKit Go.Shelf Go.Maps Go.WideMaps
attribute [local go_sem] Oper.semAt_some

/-- All cells of the one are in the other. -/
def Ck (W W' : World) : Prop := ∀ p v, W.cell? p = some v → W'.cell? p = some v
theorem Ck.trans {a b c : World} (h : Ck a b) (g : Ck b c) : Ck a c := fun p v e => g p v (h p v e)
theorem Ag.ck {B : Nat} {W A : World} (h : Ag B W A) : Ck W A := fun _ _ e => h.cell_some e
theorem Row2.ck {W W' : World} (h : Ck W W') {a : Option Addr} {n : Nat} {Nm : Nat → ByteArray} {V : Nat → Value} (hr : Row2 W a n Nm V) : Row2 W' a n Nm V := fun h0 => by
  obtain ⟨b, o, e, hc⟩ := hr h0
  exact ⟨b, o, e, fun j hj => ⟨⟨h _ _ (hc j hj).1.1, h _ _ (hc j hj).1.2⟩, (hc j hj).2⟩⟩
theorem Schs.ck {W W' : World} (h : Ck W W') {a : Option Addr} {n : Nat} {Q : Nat → Sch} (hs : Schs W a n Q) : Schs W' a n Q := ⟨hs.1.ck h, fun j hj => ⟨(hs.2 j hj).1.ck h, (hs.2 j hj).2⟩⟩
theorem Txs.ck {W W' : World} (h : Ck W W') {a : Option Addr} {n : Nat} {S : Nat → ByteArray} (hs : Txs W a n S) : Txs W' a n S := fun h0 => by
  obtain ⟨b, o, e, hc⟩ := hs h0
  exact ⟨b, o, e, fun j hj => h _ _ (hc j hj)⟩
/-- A row of texts and more lies in no box. -/
theorem Row2.boxset {w : World} {a : Option Addr} {n : Nat} {Nm : Nat → ByteArray} {V : Nat → Value} {B : Nat} {t : TypeId} {v : Value} (h : Row2 w a n Nm V) (hb : Boxed w B t v) (hv : ∀ s, v ≠ .string s) (u : Value) : Row2 (w.setCell ⟨B, 0, none⟩ u) a n Nm V := fun h0 => by
  obtain ⟨b, o, e, hc⟩ := h h0
  have hne : (⟨B, 0, none⟩ : Addr).block ≠ b := by
    rintro rfl
    have := (hc 0 h0).1.1
    simp only [World.cell?, show w.heap[B]? = _ from hb] at this
    cases ho : o + 0 * 2 with
    | zero => rw [ho] at this; simp at this; exact hv _ this
    | succ k => rw [ho] at this; simp at this
  refine ⟨b, o, e, fun j hj => ⟨⟨?_, ?_⟩, (hc j hj).2⟩⟩
  · rw [World.cell?_setCell_far _ _ _ _ hne]; exact (hc j hj).1.1
  · rw [World.cell?_setCell_far _ _ _ _ hne]; exact (hc j hj).1.2
theorem Schs.boxset {w : World} {a : Option Addr} {n : Nat} {Q : Nat → Sch} {B : Nat} {t : TypeId} {v : Value} (h : Schs w a n Q) (hb : Boxed w B t v) (hv : ∀ s, v ≠ .string s) (u : Value) : Schs (w.setCell ⟨B, 0, none⟩ u) a n Q := ⟨h.1.boxset hb hv u, fun j hj => ⟨(h.2 j hj).1.boxset hb hv u, (h.2 j hj).2⟩⟩
theorem ownV_ag {B : Nat} {W A : World} (h : Ag B W A) {b n : Nat} {D : DataW Value} (hb : b < B) (ho : W.ownsMap Tryz.prog 9 elemV b n D) : A.ownsMap Tryz.prog 9 elemV b n D := by
  obtain ⟨es, clock, h1, h2⟩ := ho
  exact ⟨es, clock, (h.low b hb).trans h1, h2⟩
theorem ownV_below {B : Nat} {W A : World} (h : Below B W A) {b n : Nat} {D : DataW Value} (hb : b < B) (ho : W.ownsMap Tryz.prog 9 elemV b n D) : A.ownsMap Tryz.prog 9 elemV b n D := by
  obtain ⟨es, clock, h1, h2⟩ := ho
  exact ⟨es, clock, (h.block b hb).trans h1, h2⟩
theorem ownV_set {W : World} {b n B : Nat} {t : TypeId} {v u : Value} {D : DataW Value} (hb : Boxed W B t v) (ho : W.ownsMap Tryz.prog 9 elemV b n D) : (W.setCell ⟨B, 0, none⟩ u).ownsMap Tryz.prog 9 elemV b n D := by
  obtain ⟨es, clock, h1, h2⟩ := ho
  refine ⟨es, clock, ?_, h2⟩
  rw [Below.heap_setCell _ _ _ _ (fun e => by
    have e : b = B := e
    subst e
    rw [show W.heap[b]? = _ from hb] at h1
    cases h1)]
  exact h1
/-- The four boxes that New's call opens with. -/
theorem new_boxes (w : World) (l v : Value) : ∃ A, (((w.alloc (.cells #[l] 22)).alloc (.cells #[v] 37)).alloc (.cells #[.pointer none] 57)).alloc (.cells #[.int .i64 0] 32) = A ∧ A.heap.size = w.heap.size + 4 ∧ Below w.heap.size w A ∧
    Boxed A w.heap.size 22 l ∧ Boxed A (w.heap.size + 1) 37 v ∧ Boxed A (w.heap.size + 1 + 1) 57 (.pointer none) ∧ Boxed A (w.heap.size + 1 + 1 + 1) 32 (.int .i64 0) := by
  refine ⟨_, rfl, by simp, ?_, ?_, ?_, ?_, ?_⟩
  · exact ((((Below.refl _ w).alloc (Nat.le_refl _) _).alloc (by simp) _).alloc (by simp; omega) _).alloc (by simp; omega) _
  · exact (((Boxed.new w _ l).alloc _).alloc _).alloc _
  · have := ((Boxed.new (w.alloc (.cells #[l] 22)) 37 v).alloc (.cells #[.pointer none] 57)).alloc (.cells #[.int .i64 0] 32)
    rwa [World.size_alloc] at this
  · have := (Boxed.new ((w.alloc (.cells #[l] 22)).alloc (.cells #[v] 37)) 57 (.pointer none)).alloc (.cells #[.int .i64 0] 32)
    rwa [World.size_alloc, World.size_alloc] at this
  · have := Boxed.new (((w.alloc (.cells #[l] 22)).alloc (.cells #[v] 37)).alloc (.cells #[.pointer none] 57)) 32 (.int .i64 0)
    rwa [World.size_alloc, World.size_alloc, World.size_alloc] at this
theorem book_small {ns : Nat} {Q : Nat → Sch} (h : bookZ ns Q = 0) : ns ≤ 16 ∧ ∀ j, j < ns → (Q j).l ≤ 16 := by
  unfold bookZ at h
  split at h
  · cases h
  · split at h
    · rename_i h1 h2
      exact ⟨by omega, fun j hj => (chkZ_ok (chks_ok Q ns h2 j hj)).1⟩
    · contradiction
/-- The place of a type's schema. -/
def ixT (T : Nat → ByteArray) (ns : Nat) (Q : Nat → Sch) (j : Nat) : Nat := (idx (fun i => (Q i).nm) (T j) ns).getD 0
/-- How far New's range has come: the k-th Var and those behind it are in the map. -/
structure NewJ (w : World) (s0 sz : Nat) (a1 : Option Addr) (ns cap1 : Nat) (Q1 : Nat → Sch) (av : Option Addr) (nv cv : Nat) (V T : Nat → ByteArray) (k : Nat) (W : World) : Prop where
  map : ∃ D, W.ownsMap Tryz.prog 9 elemV sz (nv - k) D ∧ FirstS V (fun j => schV (Q1 (ixT T ns Q1 j)).nm (Q1 (ixT T ns Q1 j)).v) nv k D
  b0 : Boxed W s0 22 (.slice a1 ns cap1)
  b1 : Boxed W (s0 + 1) 37 (.slice av nv cv)
  b2 : Boxed W (s0 + 1 + 1) 57 (.pointer none)
  b3 : Boxed W (s0 + 1 + 1 + 1) 32 (.int .i64 0)
  b4 : Boxed W (sz + 1) 212 (.map (some sz))
  b5 : Boxed W (sz + 1 + 1) 57 (.pointer (some ⟨sz + 1, 0, none⟩))
  sch : Schs W a1 ns Q1
  txs : Txs W av nv V
  has : ∀ j, k ≤ j → j < nv → ∃ i, idx (fun i => (Q1 i).nm) (T j) ns = some i
  low : Below w.heap.size w W
section
variable {w : World} {s0 sz : Nat} {a1 : Option Addr} {ns cap1 : Nat} {Q1 : Nat → Sch} {av : Option Addr} {nv cv : Nat} {V T : Nat → ByteArray} {k : Nat} {W W' : World}
theorem NewJ.ck (h : NewJ w s0 sz a1 ns cap1 Q1 av nv cv V T k W) (hb : ∀ b t v, Boxed W b t v → Boxed W' b t v) (hc : Ck W W') (hm : ∀ n D, W.ownsMap Tryz.prog 9 elemV sz n D → W'.ownsMap Tryz.prog 9 elemV sz n D) (hl : Below w.heap.size w W') : NewJ w s0 sz a1 ns cap1 Q1 av nv cv V T k W' := by
  obtain ⟨D, h1, h2⟩ := h.map
  exact ⟨⟨D, hm _ _ h1, h2⟩, hb _ _ _ h.b0, hb _ _ _ h.b1, hb _ _ _ h.b2, hb _ _ _ h.b3, hb _ _ _ h.b4, hb _ _ _ h.b5, h.sch.ck hc, h.txs.ck hc, h.has, hl⟩
theorem NewJ.ag {B : Nat} (hag : Ag B W W') (h : NewJ w s0 sz a1 ns cap1 Q1 av nv cv V T k W) (h1 : sz < B) (h2 : w.heap.size ≤ B) : NewJ w s0 sz a1 ns cap1 Q1 av nv cv V T k W' :=
  h.ck (fun _ _ _ => hag.boxed) hag.ck (fun _ _ => ownV_ag hag h1) (hag.below h2 h.low)
theorem NewJ.later (h : NewJ w s0 sz a1 ns cap1 Q1 av nv cv V T k W) (hB : Below W.heap.size W W') : NewJ w s0 sz a1 ns cap1 Q1 av nv cv V T k W' := by
  obtain ⟨D, h1, _⟩ := h.map
  exact h.ck (fun _ _ _ hb => Boxed.kept_of hb hB hb.lt) (fun _ _ e => cell_later e hB) (fun _ _ => ownV_below hB h1.lt) (h.low.trans (hB.mono h.low.size))
/-- What a map's new entry leaves as it was. -/
theorem map_keeps {D : DataW Value} {n : Nat} (h : W.ownsMap Tryz.prog 9 elemV sz n D) (hg : W.grownBy W' (some sz)) : ∀ (b : Nat) (o : Obj), o.isCells = true → W.heap[b]? = some o → W'.heap[b]? = some o := fun b o ho e => by
  refine (hg.block b (Array.getElem?_eq_some_iff.1 e).1 fun q => ?_).trans e
  injection q with q
  subst q
  obtain ⟨es, clock, e1, _⟩ := h
  rw [e1] at e
  cases e
  cases ho
theorem ck_of (hk : ∀ (b : Nat) (o : Obj), o.isCells = true → W.heap[b]? = some o → W'.heap[b]? = some o) : Ck W W' := fun p v e => by
  obtain ⟨o, ho, hi⟩ := cells_of_cell e
  rw [World.cell?_of_block (w := W) (w' := W') ((hk _ _ hi ho).trans ho.symm)]
  exact e
theorem NewJ.put (h : NewJ w s0 sz a1 ns cap1 Q1 av nv cv V T (k + 1) W) (hk : k < nv) (hw : w.heap.size ≤ sz) {i : Nat} (hi : idx (fun i => (Q1 i).nm) (T k) ns = some i) {D : DataW Value} (hD : W.ownsMap Tryz.prog 9 elemV sz (nv - (k + 1)) D) (hF : FirstS V (fun j => schV (Q1 (ixT T ns Q1 j)).nm (Q1 (ixT T ns Q1 j)).v) nv (k + 1) D)
    (ho : W'.ownsMap Tryz.prog 9 elemV sz (nv - (k + 1) + 1) (D.put (keyS (V k)) (.held (schV (Q1 i).nm (Q1 i).v)))) (hg : W.grownBy W' (some sz)) : NewJ w s0 sz a1 ns cap1 Q1 av nv cv V T k W' := by
  have hkp := map_keeps hD hg
  have e : ixT T ns Q1 k = i := by simp [ixT, hi]
  refine ⟨⟨_, ho.mono (by omega), ?_⟩, hkp _ _ rfl h.b0, hkp _ _ rfl h.b1, hkp _ _ rfl h.b2, hkp _ _ rfl h.b3, hkp _ _ rfl h.b4, hkp _ _ rfl h.b5, h.sch.ck (ck_of hkp), h.txs.ck (ck_of hkp), fun j h1 h2 => ?_, h.low.grown hg h.low.size (fun j hj => by cases hj; exact hw)⟩
  · have := hF.more hD.isMap hk
    rw [e] at this
    exact this
  · by_cases ej : j = k
    · exact ej ▸ ⟨i, hi⟩
    · exact h.has j (by omega) h2
end
theorem NewJ.names {w : World} {s0 sz : Nat} {a1 : Option Addr} {ns cap1 : Nat} {Q1 : Nat → Sch} {av : Option Addr} {nv cv : Nat} {V T : Nat → ByteArray} {W : World} (h : NewJ w s0 sz a1 ns cap1 Q1 av nv cv V T 0 W) (hl : ∀ j, j < ns → (Q1 j).l ≤ 16) : NamesIn W (sz + 1) sz nv V (fun j => Q1 (ixT T ns Q1 j)) := by
  refine ⟨h.b4.cell, h.map, fun j hj => ?_⟩
  obtain ⟨i, hi⟩ := h.has j (Nat.zero_le _) hj
  have e : ixT T ns Q1 j = i := by simp [ixT, hi]
  have hlt := (idx_some _ _ _ _ hi).1
  rw [e]
  exact ⟨(h.sch.2 i hlt).1, hl i hlt⟩
theorem NamesIn.boxset {w : World} {p m n B : Nat} {V : Nat → ByteArray} {S : Nat → Sch} {t : TypeId} {v : Value} (h : NamesIn w p m n V S) (hb : Boxed w B t v) (hv : ∀ s, v ≠ .string s) (hp : B ≠ p) (u : Value) : NamesIn (w.setCell ⟨B, 0, none⟩ u) p m n V S := by
  obtain ⟨D, h1, h2⟩ := h.map
  exact ⟨by rw [World.cell?_setCell_far _ _ _ _ hp]; exact h.box, ⟨D, ownV_set hb h1, h2⟩, fun j hj => ⟨(h.flds j hj).1.boxset hb hv u, (h.flds j hj).2⟩⟩
/-- What New answers where it is handed a book, and as many types as Vars. -/
def NewAns (w : World) (nv : Nat) (V : Nat → ByteArray) (ns : Nat) (Q : Nat → Sch) (T : Nat → ByteArray) (e : Ending) (w' : World) : Prop :=
  (lackB T ns Q nv = false ∧ ∃ p m S, e = .returned (.tuple #[.pointer (some ⟨p, 0, none⟩), .int .i64 0]) ∧ NamesIn w' p m nv V S ∧ (∀ j, j < nv → ∃ i, idx (fun i => (Q i).nm) (T j) ns = some i ∧ SameS (Q i) (S j)) ∧ Below w.heap.size w w') ∨
    (lackB T ns Q nv = true ∧ e = .returned (.tuple #[.pointer none, .int .i64 6]) ∧ Below w.heap.size w w')
theorem idx_congr {A B : Nat → ByteArray} (s : ByteArray) : ∀ {n : Nat}, (∀ j, j < n → A j = B j) → idx A s n = idx B s n
  | 0, _ => rfl
  | n + 1, h => by simp only [idx]; rw [idx_congr s fun j hj => h j (by omega), h n (by omega)]
theorem NamesIn.ck {w w' : World} {p m n : Nat} {V : Nat → ByteArray} {S : Nat → Sch} (h : NamesIn w p m n V S) (hc : Ck w w') (hm : ∀ D, w.ownsMap Tryz.prog 9 elemV m n D → w'.ownsMap Tryz.prog 9 elemV m n D) : NamesIn w' p m n V S := by
  obtain ⟨D, h1, h2⟩ := h.map
  exact ⟨hc _ _ h.box, ⟨D, hm _ h1, h2⟩, fun j hj => ⟨(h.flds j hj).1.ck hc, (h.flds j hj).2⟩⟩
set_option maxRecDepth 100000 in
set_option maxHeartbeats 4000000 in
theorem new_in (n : Nat) (a : Option Addr) (ns cs : Nat) (Q : Nat → Sch) (av : Option Addr) (nv cv : Nat) (V : Nat → ByteArray) (at_ : Option Addr) (ct : Nat) (T : Nat → ByteArray) (w : World) (H : Schs w a ns Q) (hV : Txs w av nv V) (hT : Txs w at_ nv T) (hm : nv ≤ 1048576) (hVs : ∀ j, j < nv → (V j).size ≤ maxLen) (hb : bookZ ns Q = 0) :
    CallsIn Fence.wide n Tryz.prog 114 #[.slice a ns cs, .slice av nv cv, .slice at_ nv ct] w fun e w' => NewAns w nv V ns Q T e w' := by
  have hdd : ∀ k : Nat, (Fence.wide.depth.isSome = true → 1 ≤ k) := fun k h => by cases h
  have hmm := @run_makeMap Tryz.prog
  have CB : Hid (∀ d, Below w.heap.size w d → Calls Tryz.prog 112 #[.slice a ns cs] d fun e w' => e = .returned (.int .i64 0) ∧ Below d.heap.size d w') := fun d hd => by rw [← hb]; exact book_any a ns cs Q d (H.later hd)
  have CC : Hid (∀ d, Below w.heap.size w d → Calls Tryz.prog 149 #[.slice a ns cs] d _) := fun d hd => copiedS_any a ns cs Q d (H.later hd) (book_small hb).1 (book_small hb).2
  have HNS : Hid (ns ≤ 16) := (book_small hb).1
  have HL : Hid (∀ j, j < ns → (Q j).l ≤ 16) := (book_small hb).2
  obtain ⟨A, hA, hsz, hB, b0, b1, b2, b3⟩ := new_boxes w (.slice a ns cs) (.slice av nv cv)
  have HB : Hid (Below w.heap.size w A) := hB
  have K0 : Hid (Boxed A w.heap.size 22 (.slice a ns cs)) := b0
  have K1 : Hid (Boxed A (w.heap.size + 1) 37 (.slice av nv cv)) := b1
  have K2 : Hid (Boxed A (w.heap.size + 1 + 1) 57 (.pointer none)) := b2
  have K3 : Hid (Boxed A (w.heap.size + 1 + 1 + 1) 32 (.int .i64 0)) := b3
  have HZ : Hid (A.heap.size = w.heap.size + 4) := hsz
  have c0 := b0.cell
  have HV : Hid (Txs w av nv V) := hV
  have HT : Hid (Txs w at_ nv T) := hT
  have HVS : Hid (∀ j, j < nv → (V j).size ≤ maxLen) := hVs
  clear hB hsz b0 b1 b2 b3 H hb hV hT hVs
  refine callsIn_of_wp_marks Tryz.func114 rfl trivial ?_ rfl
  simp only [Tryz.ntmps114, List.size_toArray, List.length_cons, List.length_nil, Nat.reduceAdd, Nat.reduceSub, Array.replicate_succ, Array.replicate_zero, List.push_toArray, List.append_toArray, List.nil_append, List.cons_append]
  gi_wp2_with (first
    | (refine ⟨trivial, hdd _, ?_⟩; gi_at_call 150; refine (backward_in _ _ _ _ _).mono ?_; rintro e w' ⟨rfl, rfl⟩)
    | (refine ⟨trivial, hdd _, ?_⟩; gi_at_call 149; refine (callsIn_wide.2 (CC.out A1 (bt HB.out hB1))).mono ?_; rintro e A2 ⟨a1, cap1, Q1, rfl, hS1, hQ1, hB2⟩; have HS1 : Hid (Schs A2 a1 ns Q1) := hS1; have HQ1 : Hid (∀ j, j < ns → SameS (Q j) (Q1 j)) := hQ1; clear hS1 hQ1; have f0 := (Boxed.kept_of K0.out (bt hB1 hB2) (Boxed.lt K0.out)); have f0c := f0.cell; have f0f := f0.frozen)
    | (refine ⟨trivial, hdd _, ?_⟩; gi_at_call 112; refine (callsIn_wide.2 (CB.out A HB.out)).mono ?_; rintro e A1 ⟨rfl, hB1⟩; have d0 := (Boxed.kept_of K0.out hB1 (Boxed.lt K0.out)).cell; have d1 := (Boxed.kept_of K1.out hB1 (Boxed.lt K1.out)).cell))
  obtain ⟨s0, hs0⟩ : ∃ s0, s0 = w.heap.size := ⟨_, rfl⟩
  obtain ⟨sz, hz⟩ : ∃ sz, sz = A2.heap.size := ⟨_, rfl⟩
  obtain ⟨B, hBB⟩ : ∃ B, B = (((((A2.setCell ⟨s0, 0, none⟩ (.slice a1 ns cap1)).alloc (.map #[] 0)).alloc (.cells #[.map (some sz)] 212)).alloc (.cells #[.pointer (some ⟨sz + 1, 0, none⟩)] 57)).alloc (.cells #[.slice at_ nv ct] 37)) := ⟨_, rfl⟩
  have hB12 : Below A.heap.size A A2 := bt hB1 hB2
  have hA4 := HZ.out
  have hA2 := hB12.size
  have hBsz : B.heap.size = sz + 4 := by rw [hBB, hz]; simp
  have hBA : ∀ b t v, b ≠ s0 → Boxed A2 b t v → Boxed B b t v := fun b t v hne h => by
    rw [hBB]
    exact ((((h.other hne _).alloc _).alloc _).alloc _).alloc _
  have hlow : Below w.heap.size w B := by
    rw [hBB]
    refine ((((Below.setCell (p := ⟨s0, 0, none⟩) (HB.out.trans (hB12.mono (by omega))) (by rw [hs0]; exact Nat.le_refl _) _).alloc ?_ _).alloc ?_ _).alloc ?_ _).alloc ?_ _ <;> simp <;> omega
  have hJ0 : NewJ w s0 sz a1 ns cap1 Q1 av nv cv V T nv B := by
    refine ⟨⟨.map [], ?_, firstS_none _ _ _⟩, ?_, ?_, ?_, ?_, ?_, ?_, ?_, ?_, fun j h1 h2 => by omega, hlow⟩
    · rw [hBB]
      have := World.ownsMap_made (A2.setCell ⟨s0, 0, none⟩ (.slice a1 ns cap1)) Tryz.prog 9 elemV
      rw [World.size_setCell, ← hz] at this
      exact ((((this.alloc _).alloc _).alloc _).mono (Nat.zero_le _))
    · rw [hBB, hs0]
      exact ((((f0.set _).alloc _).alloc _).alloc _).alloc _
    · refine hBA _ _ _ (by omega) ?_
      rw [hs0]
      exact Boxed.kept_of K1.out hB12 (Boxed.lt K1.out)
    · refine hBA _ _ _ (by omega) ?_
      rw [hs0]
      exact Boxed.kept_of K2.out hB12 (Boxed.lt K2.out)
    · refine hBA _ _ _ (by omega) ?_
      rw [hs0]
      exact Boxed.kept_of K3.out hB12 (Boxed.lt K3.out)
    · rw [hBB]
      have := ((Boxed.new ((A2.setCell ⟨s0, 0, none⟩ (.slice a1 ns cap1)).alloc (.map #[] 0)) 212 (.map (some sz))).alloc (.cells #[.pointer (some ⟨sz + 1, 0, none⟩)] 57)).alloc (.cells #[.slice at_ nv ct] 37)
      rw [World.size_alloc, World.size_setCell, ← hz] at this
      exact this
    · rw [hBB]
      have := (Boxed.new (((A2.setCell ⟨s0, 0, none⟩ (.slice a1 ns cap1)).alloc (.map #[] 0)).alloc (.cells #[.map (some sz)] 212)) 57 (.pointer (some ⟨sz + 1, 0, none⟩))).alloc (.cells #[.slice at_ nv ct] 37)
      rw [World.size_alloc, World.size_alloc, World.size_setCell, ← hz] at this
      exact this
    · have h1 : Schs (A2.setCell ⟨s0, 0, none⟩ (.slice a1 ns cap1)) a1 ns Q1 := HS1.out.boxset (by rw [hs0]; exact f0) (fun s e => by cases e) _
      rw [hBB]
      exact h1.later (((((Below.refl _ _).alloc (Nat.le_refl _) _).alloc (by simp) _).alloc (by simp; omega) _).alloc (by simp; omega) _)
    · exact HV.out.later hlow
  have hbs : Boxed B (sz + 1 + 1 + 1) 37 (.slice at_ nv ct) := by
    rw [hBB]
    have := Boxed.new ((((A2.setCell ⟨s0, 0, none⟩ (.slice a1 ns cap1)).alloc (.map #[] 0)).alloc (.cells #[.map (some sz)] 212)).alloc (.cells #[.pointer (some ⟨sz + 1, 0, none⟩)] 57)) 37 (.slice at_ nv ct)
    rw [World.size_alloc, World.size_alloc, World.size_alloc, World.size_setCell, ← hz] at this
    exact this
  have hTB := HT.out.later hlow
  rw [← hs0, ← hz, ← hBB]
  have HJ0 : Hid (NewJ w s0 sz a1 ns cap1 Q1 av nv cv V T nv B) := hJ0
  have hszw : w.heap.size + 4 ≤ sz := by omega
  have HSW : Hid (w.heap.size + 4 ≤ sz) := hszw
  have HS0 : Hid (s0 = w.heap.size) := hs0
  clear hJ0 hlow hBA hA4 hA2 hB12 f0 f0c f0f d0 d1 c0 hA HB K0 K1 K2 K3 HZ hBB hs0 hz HS1 CB CC hmm hB1 hB2 hszw
  refine back_out (sz + 1 + 1 + 1) at_ nv ct T (NewJ w s0 sz a1 ns cap1 Q1 av nv cv V T) (fun W => Boxed W (s0 + 1 + 1) 57 (.pointer none) ∧ Boxed W (s0 + 1 + 1 + 1) 32 (.int .i64 6) ∧ Below w.heap.size w W ∧ ∃ j, j < nv ∧ idx (fun i => (Q1 i).nm) (T j) ns = none)
    rfl rfl hbs hTB hm ?_ ?_ ?_ (fun k => { tmps := #[.slice a ns cs, .slice av nv cv, .slice at_ nv ct, .pointer (some ⟨s0, 0, none⟩), .pointer (some ⟨s0 + 1, 0, none⟩), undef, .pointer (some ⟨s0 + 1 + 1, 0, none⟩), .pointer (some ⟨s0 + 1 + 1 + 1, 0, none⟩), .pointer (some ⟨sz + 1 + 1, 0, none⟩), .int .i64 (k : Nat), .string (T k), undef, undef, .slice a ns cs, .int .i64 0, .bool false, .bool false, .slice av nv cv, .int .i64 (nv : Nat), .slice at_ nv ct, .int .i64 (nv : Nat), .bool false, .bool false, .slice a ns cs, .slice a1 ns cap1, .map (some sz), .agg #[.map (some sz)], .pointer (some ⟨sz + 1, 0, none⟩), .slice at_ nv ct, .func (.func 179) #[] #[.pointer (some ⟨sz + 1 + 1 + 1, 0, none⟩)], .int .i64 (k : Nat), .string (T k), undef, undef, undef, undef, undef, undef, undef, undef, undef, undef, undef, undef, undef, undef, undef, undef, undef, undef, undef, undef, undef], defers := [] }) ?_ ?_ ?_ ?_
  · intro k W A hag h
    exact h.ag hag (by omega) (by have := HSW.out; omega)
  · rintro W A hag ⟨h1, h2, h3, h4⟩
    exact ⟨hag.boxed h1, hag.boxed h2, hag.below (by have := HSW.out; omega) h3, h4⟩
  · intro W h
    exact HJ0.out.later h
  · intro l k W K hK
    gi_wp2
    first | exact hK | simpa using hK
  · rintro l k W hk hj hs2
    have HJ : Hid (NewJ w s0 sz a1 ns cap1 Q1 av nv cv V T (k + 1) W) := hj
    have c0 := hj.b0.cell
    cases e : idx (fun i => (Q1 i).nm) (T k) ns with
    | none =>
      have hr : Calls Tryz.prog 151 #[.slice a1 ns cap1, .string (T k)] W _ := find_none a1 ns cap1 (fun j => (Q1 j).nm) (fun j => (Q1 j).v) (T k) W hj.sch.1 (by have := HNS.out; omega) (idx_none _ _ _ e)
      have HE : Hid (idx (fun i => (Q1 i).nm) (T k) ns = none) := e
      clear hj e
      gi_wp2_with (refine ⟨trivial, hdd _, ?_⟩; gi_at_call 151; refine (CallsIn.inRound l (callsIn_wide.2 hr)).mono ?_; rintro e w2 ⟨rfl, hB2⟩; have j2 := HJ.out.later hB2; have g2 := j2.b2.cell; have h2 := j2.b2.frozen; have g3 := (j2.b3.other (show s0 + 1 + 1 + 1 ≠ s0 + 1 + 1 by omega) (.pointer none)).cell; have h3 := (j2.b3.other (show s0 + 1 + 1 + 1 ≠ s0 + 1 + 1 by omega) (.pointer none)).frozen; have HJ2 : Hid (NewJ w s0 sz a1 ns cap1 Q1 av nv cv V T (k + 1) w2) := j2; clear j2)
      have hwn := HS0.out
      refine ⟨(((⟨hB2.size, fun k o ho _ => (hB2.block k (Array.getElem?_eq_some_iff.1 ho).1).trans ho⟩ : KeepsOthers W w2).trans (KeepsOthers.setCell _ _ _)).trans (KeepsOthers.setCell _ _ _)).from _, (HJ2.out.b2.set _).other (by omega) _, (HJ2.out.b3.other (by omega) _).set _, (HJ2.out.low.setCell (p := ⟨s0 + 1 + 1, 0, none⟩) ?_ _).setCell (p := ⟨s0 + 1 + 1 + 1, 0, none⟩) ?_ _, k, hk, HE.out⟩
      · simp; omega
      · simp; omega
    | some i =>
      obtain ⟨i1, i2, i3⟩ := idx_some _ _ _ _ e
      have hr : Calls Tryz.prog 151 #[.slice a1 ns cap1, .string (T k)] W _ := find_some a1 ns cap1 i (fun j => (Q1 j).nm) (fun j => (Q1 j).v) (T k) W hj.sch.1 (by have := HNS.out; omega) i1 i2 i3
      have HE : Hid (idx (fun i => (Q1 i).nm) (T k) ns = some i) := e
      clear hj e i2 i3
      gi_wp2_with (refine ⟨trivial, hdd _, ?_⟩; gi_at_call 151; refine (CallsIn.inRound l (callsIn_wide.2 hr)).mono ?_; rintro e w2 ⟨rfl, hB2⟩)
      have j2 := HJ.out.later hB2
      obtain ⟨D, hD, hF⟩ := j2.map
      obtain ⟨bv, ov, rfl, hcv⟩ := j2.txs (by omega)
      obtain ⟨bs, os, rfl, hcs⟩ := j2.sch.1 (by omega)
      have hkey : keyOf Tryz.prog 9 (.string (V k)) = some (keyS (V k)) := keyOf_string_mk Tryz.underlying9 (HVS.out k hk)
      obtain ⟨w3, hrun, ho3, hg3⟩ := World.ownsMap.update (w := w2.drew) hD.drew str_law Tryz.underlying210 (by unfold maxLen; omega) hkey (show elemV (.agg #[.string (Q1 i).nm, (Q1 i).v]) = some (.held (schV (Q1 i).nm (Q1 i).v), []) from rfl)
      have q0 : w2.drew.cell? ⟨sz + 1 + 1, 0, none⟩ = _ := j2.b5.cell
      have q3 : w2.drew.cell? ⟨sz + 1, 0, none⟩ = _ := j2.b4.cell
      have q4 : w2.drew.cell? ⟨s0 + 1, 0, none⟩ = _ := j2.b1.cell
      have q7 : w2.drew.cell? ⟨bv, ov + k, none⟩ = _ := hcv k hk
      have q8 : w2.drew.cell? ⟨s0, 0, none⟩ = _ := j2.b0.cell
      have q11 : w2.drew.cell? ⟨bs, os + i * 2, none⟩ = _ := (hcs i i1).1.1
      have q12 : w2.drew.cell? ⟨bs, os + i * 2 + 1, none⟩ = _ := (hcs i i1).1.2
      have HJ2 : Hid (NewJ w s0 sz (some ⟨bs, os, none⟩) ns cap1 Q1 (some ⟨bv, ov, none⟩) nv cv V T (k + 1) w2) := j2
      have fin : outPost B.heap.size (NewJ w s0 sz (some ⟨bs, os, none⟩) ns cap1 Q1 (some ⟨bv, ov, none⟩) nv cv V T k) (fun W => Boxed W (s0 + 1 + 1) 57 (.pointer none) ∧ Boxed W (s0 + 1 + 1 + 1) 32 (.int .i64 6) ∧ Below w.heap.size w W ∧ ∃ j, j < nv ∧ idx (fun i => (Q1 i).nm) (T j) ns = none) W .normal { tmps := #[], defers := [] } w3 := by
        have hj3 : NewJ w s0 sz (some ⟨bs, os, none⟩) ns cap1 Q1 (some ⟨bv, ov, none⟩) nv cv V T k w3 := (j2.later (Below.drew (Below.refl _ _))).put hk (by have := HSW.out; omega) HE.out hD.drew hF ho3 hg3
        have hkp := map_keeps hD.drew hg3
        have hdw : ∀ (b : Nat) (o : Obj), W.heap[b]? = some o → w2.drew.heap[b]? = some o := fun b o e => (hB2.block b (Array.getElem?_eq_some_iff.1 e).1).trans e
        refine ⟨⟨Nat.le_trans hB2.size hg3.size, fun b o hb ho _ => ?_⟩, fun b o _ ho e => hkp b o ho (hdw b o e), hj3⟩
        have h1 := hdw b o ho
        exact (hg3.block b (Array.getElem?_eq_some_iff.1 h1).1 (fun q => by injection q; omega)).trans h1
      have FIN : Hid (outPost _ _ _ _ _ _ _) := fin
      clear fin j2 hD hF ho3 hg3 hcv hcs hr HJ
      refine wpIn_region_reads 12 [(40, .pointer (some ⟨sz + 1, 0, none⟩)), (41, .pointer (some ⟨sz + 1, 0, none⟩)), (42, .pointer (some ⟨sz + 1, 0, none⟩)), (43, .map (some sz)), (44, .slice (some ⟨bv, ov, none⟩) nv cv), (45, .int .i64 (k : Nat)), (46, .pointer (some ⟨bv, ov + k, none⟩)), (47, .string (V k)), (48, .slice (some ⟨bs, os, none⟩) ns cap1), (49, .int .i64 (i : Nat)), (50, .pointer (some ⟨bs, os + i * 2, none⟩)), (51, .agg #[.string (Q1 i).nm, (Q1 i).v])] _ (by kernel_rfl) (by kernel_rfl) rfl rfl (by kernel_rfl) rfl ?_ ?_ (w1 := w3) ?_
      · generalize hfull : puts _ _ = full
        have F3 : full[3]? = some (.pointer (some ⟨s0, 0, none⟩)) := by rw [← hfull]; kernel_rfl
        have F4 : full[4]? = some (.pointer (some ⟨s0 + 1, 0, none⟩)) := by rw [← hfull]; kernel_rfl
        have F8 : full[8]? = some (.pointer (some ⟨sz + 1 + 1, 0, none⟩)) := by rw [← hfull]; kernel_rfl
        have F9 : full[9]? = some (.int .i64 (k : Nat)) := by rw [← hfull]; kernel_rfl
        have F11 : full[11]? = some (.int .i64 (i : Nat)) := by rw [← hfull]; kernel_rfl
        have F40 : full[40]? = some (.pointer (some ⟨sz + 1, 0, none⟩)) := by rw [← hfull]; kernel_rfl
        have F41 : full[41]? = some (.pointer (some ⟨sz + 1, 0, none⟩)) := by rw [← hfull]; kernel_rfl
        have F42 : full[42]? = some (.pointer (some ⟨sz + 1, 0, none⟩)) := by rw [← hfull]; kernel_rfl
        have F43 : full[43]? = some (.map (some sz)) := by rw [← hfull]; kernel_rfl
        have F44 : full[44]? = some (.slice (some ⟨bv, ov, none⟩) nv cv) := by rw [← hfull]; kernel_rfl
        have F45 : full[45]? = some (.int .i64 (k : Nat)) := by rw [← hfull]; kernel_rfl
        have F46 : full[46]? = some (.pointer (some ⟨bv, ov + k, none⟩)) := by rw [← hfull]; kernel_rfl
        have F47 : full[47]? = some (.string (V k)) := by rw [← hfull]; kernel_rfl
        have F48 : full[48]? = some (.slice (some ⟨bs, os, none⟩) ns cap1) := by rw [← hfull]; kernel_rfl
        have F49 : full[49]? = some (.int .i64 (i : Nat)) := by rw [← hfull]; kernel_rfl
        have F50 : full[50]? = some (.pointer (some ⟨bs, os + i * 2, none⟩)) := by rw [← hfull]; kernel_rfl
        have F51 : full[51]? = some (.agg #[.string (Q1 i).nm, (Q1 i).v]) := by rw [← hfull]; kernel_rfl
        clear hfull
        simp only [List.take_succ_cons, List.take_zero, Reads]
        have hk' : (k : Int) < (nv : Int) := by omega
        have hi' : (i : Int) < (ns : Int) := by omega
        refine ⟨⟨_, _, rfl, F40, ?_⟩, ⟨_, _, rfl, F41, ?_⟩, ⟨_, _, rfl, F42, ?_⟩, ⟨_, _, rfl, F43, ?_⟩, ⟨_, _, rfl, F44, ?_⟩, ⟨_, _, rfl, F45, ?_⟩, ⟨_, _, rfl, F46, ?_⟩, ⟨_, _, rfl, F47, ?_⟩, ⟨_, _, rfl, F48, ?_⟩, ⟨_, _, rfl, F49, ?_⟩, ⟨_, _, rfl, F50, ?_⟩, ⟨_, _, rfl, F51, ?_⟩, trivial⟩
        all_goals simp [execOp, Act.eval, go_sem, Array.getD_eq_getD_getElem?, F3, F4, F8, F9, F11, F40, F41, F42, F44, F45, F46, F48, F49, F50, q0, q3, q4, q7, q8, q11, q12]
        all_goals (intro h; omega)
      · generalize hfull : puts _ _ = full
        have F43 : full[43]? = some (.map (some sz)) := by rw [← hfull]; kernel_rfl
        have F47 : full[47]? = some (.string (V k)) := by rw [← hfull]; kernel_rfl
        have F51 : full[51]? = some (.agg #[.string (Q1 i).nm, (Q1 i).v]) := by rw [← hfull]; kernel_rfl
        clear hfull
        simp [execOp, Act.eval, go_sem, Array.getD_eq_getD_getElem?, F43, F47, F51, hrun]
      · exact FIN.out
  · rintro D W hD hj hK
    have g5 := hj.b5.cell
    have g2 := hj.b2.cell
    have h2 := hj.b2.frozen
    have k3 := hj.b3.other (show s0 + 1 + 1 + 1 ≠ s0 + 1 + 1 by omega) (.pointer (some ⟨sz + 1, 0, none⟩))
    have g3 := k3.cell
    have h3 := k3.frozen
    have HJ : Hid (NewJ w s0 sz a1 ns cap1 Q1 av nv cv V T 0 W) := hj
    clear hj k3
    have hnm : ∀ s : ByteArray, idx (fun i => (Q1 i).nm) s ns = idx (fun i => (Q i).nm) s ns := fun s => idx_congr s fun j hj => (HQ1.out j hj).1
    have hwn := HS0.out
    have hsw := HSW.out
    have hb2 := (HJ.out.b2.set (.pointer (some ⟨sz + 1, 0, none⟩))).other (show s0 + 1 + 1 ≠ s0 + 1 + 1 + 1 by omega) (.int .i64 0)
    have hb3 := (HJ.out.b3.other (show s0 + 1 + 1 + 1 ≠ s0 + 1 + 1 by omega) (.pointer (some ⟨sz + 1, 0, none⟩))).set (.int .i64 0)
    have hN := ((HJ.out.names fun j hj => by rw [(HQ1.out j hj).2.1]; exact HL.out j hj).boxset HJ.out.b2 (fun s e => by cases e) (by omega) (.pointer (some ⟨sz + 1, 0, none⟩))).boxset (HJ.out.b3.other (show s0 + 1 + 1 + 1 ≠ s0 + 1 + 1 by omega) _) (fun s e => by cases e) (by omega) (.int .i64 0)
    have hlo := (HJ.out.low.setCell (p := ⟨s0 + 1 + 1, 0, none⟩) (by simp; omega) (.pointer (some ⟨sz + 1, 0, none⟩))).setCell (p := ⟨s0 + 1 + 1 + 1, 0, none⟩) (by simp; omega) (.int .i64 0)
    obtain ⟨Z, hZ⟩ : ∃ Z, ((W.setCell ⟨s0 + 1 + 1, 0, none⟩ (.pointer (some ⟨sz + 1, 0, none⟩))).setCell ⟨s0 + 1 + 1 + 1, 0, none⟩ (.int .i64 0)) = Z := ⟨_, rfl⟩
    have hKZ : Z.heap[D]? = some (.deferred (some [])) := by rw [← hZ]; exact (KeepsOthers.setCell _ _ _).same D _ ((KeepsOthers.setCell _ _ _).same D _ hK rfl) rfl
    rw [hZ] at hb2 hb3 hN hlo
    have hag : Ag B.heap.size Z (Z.putObj D (.deferred none)) := Ag.putObj hD hKZ rfl rfl
    have hlk : lackB T ns Q nv = false := by
      cases hq : lackB T ns Q nv with
      | false => rfl
      | true =>
        exfalso
        have key : ∀ m, m ≤ nv → lackB T ns Q m = false := by
          intro m
          induction m with
          | zero => intro _; rfl
          | succ m ih =>
            intro hm'
            obtain ⟨i, hi⟩ := HJ.out.has m (Nat.zero_le _) (by omega)
            rw [hnm] at hi
            simp [lackB, ih (by omega), hi]
        rw [key nv (Nat.le_refl _)] at hq
        cases hq
    have HFin : Hid (NewAns w nv V ns Q T (.returned (.tuple #[.pointer (some ⟨sz + 1, 0, none⟩), .int .i64 0])) (Z.putObj D (.deferred none))) := by
      refine .inl ⟨hlk, sz + 1, sz, _, rfl, hN.ck hag.ck (fun D => ownV_ag hag (by omega)), fun j hj => ?_, hag.below (by omega) hlo⟩
      obtain ⟨i, hi⟩ := HJ.out.has j (Nat.zero_le _) hj
      have e : ixT T ns Q1 j = i := by simp [ixT, hi]
      rw [hnm] at hi
      exact ⟨i, hi, by rw [e]; exact HQ1.out i (idx_some _ _ _ _ hi).1⟩
    have hc1 := cell_kept hb2.cell (grownBy_putObj' _ D (.deferred none)) (fun r e => by cases e; exact ⟨_, hKZ, rfl⟩)
    have hc2 := cell_kept hb3.cell (grownBy_putObj' _ D (.deferred none)) (fun r e => by cases e; exact ⟨_, hKZ, rfl⟩)
    clear hN hlo hag hlk hb2 hb3 hnm hwn hsw
    gi_wp2
    try rw [hZ]
    refine ⟨by simp, .inl ⟨_, _, rfl, run_takeDeferred hKZ, ?_⟩⟩
    refine ⟨.tuple #[.pointer (some ⟨sz + 1, 0, none⟩), .int .i64 0], ?_, HFin.out⟩
    simp [results, Tryz.f114, go_sem, hc1, hc2]
  · rintro D W hD ⟨x1, x2, x3, x4⟩ hK
    have hc1 := cell_kept x1.cell (grownBy_putObj' _ D (.deferred none)) (fun r e => by cases e; exact ⟨_, hK, rfl⟩)
    have hc2 := cell_kept x2.cell (grownBy_putObj' _ D (.deferred none)) (fun r e => by cases e; exact ⟨_, hK, rfl⟩)
    gi_wp2
    refine ⟨by simp, .inl ⟨_, _, rfl, run_takeDeferred hK, ?_⟩⟩
    refine ⟨.tuple #[.pointer none, .int .i64 6], ?_, .inr ⟨?_, rfl, ?_⟩⟩
    · simp [results, Tryz.f114, go_sem, hc1, hc2]
    · obtain ⟨j, hj, e⟩ := x4
      rw [idx_congr (T j) fun j hj => (HQ1.out j hj).1] at e
      exact lackB_at e hj
    · exact (Ag.putObj (B := w.heap.size) (by have := HSW.out; omega) hK rfl rfl).below (Nat.le_refl _) x3
end Go.Proofs.YtkfpgkohkhhlhaaGreatDoor
namespace Go.Proofs.YtkfpgkohkhhlhaaGreatDoor
open Go.RowKit Go.Shelf
attribute [local go_sem] Oper.semAt_some

set_option maxRecDepth 100000 in
set_option maxHeartbeats 4000000 in
theorem new_book (n : Nat) (a : Option Addr) (ns cs : Nat) (Q : Nat → Sch) (av : Option Addr) (nv cv : Nat) (at_ : Option Addr) (nt ct : Nat) (w : World) (H : Schs w a ns Q) (hb : ¬ bookZ ns Q = 0) :
    CallsIn Fence.wide n Tryz.prog 114 #[.slice a ns cs, .slice av nv cv, .slice at_ nt ct] w fun e w' => e = .returned (.tuple #[.pointer none, .int .i64 1]) ∧ Below w.heap.size w w' := by
  have hdd : ∀ k : Nat, (Fence.wide.depth.isSome = true → 1 ≤ k) := fun k h => by cases h
  obtain ⟨A, hA, hsz, hB, b0, b1, b2, b3⟩ := new_boxes w (.slice a ns cs) (.slice av nv cv)
  have CB : Calls Tryz.prog 112 #[.slice a ns cs] A fun e w' => e = .returned (.int .i64 (bookZ ns Q)) ∧ Below A.heap.size A w' := book_any a ns cs Q A (H.later hB)
  have hb' : (bookZ ns Q != 0) = true := by simp [hb]
  generalize bookZ ns Q = r at CB hb' hb
  have HCB : Hid (Calls Tryz.prog 112 _ A _) := CB
  have HB : Hid (Below w.heap.size w A) := hB
  have K1 : Hid (Boxed A (w.heap.size + 1) 37 (.slice av nv cv)) := b1
  have K2 : Hid (Boxed A (w.heap.size + 1 + 1) 57 (.pointer none)) := b2
  have K3 : Hid (Boxed A (w.heap.size + 1 + 1 + 1) 32 (.int .i64 0)) := b3
  have c0 := b0.cell
  clear hB hsz b0 b1 b2 b3 H CB
  refine callsIn_of_wp_marks Tryz.func114 rfl trivial ?_ rfl
  simp only [Tryz.ntmps114, List.size_toArray, List.length_cons, List.length_nil, Nat.reduceAdd, Nat.reduceSub, Array.replicate_succ, Array.replicate_zero, List.push_toArray, List.append_toArray, List.nil_append, List.cons_append]
  gi_wp2_with (first
    | (refine ⟨trivial, hdd _, ?_⟩; gi_at_call 112; refine (callsIn_wide.2 HCB.out).mono ?_; rintro e A1 ⟨rfl, hB1⟩; have d1 := (Boxed.kept_of K1.out hB1 (Boxed.lt K1.out)).cell; have k2 := Boxed.kept_of K2.out hB1 (Boxed.lt K2.out); have k3 := Boxed.kept_of K3.out hB1 (Boxed.lt K3.out); have g2 := k2.cell; have h2 := k2.frozen; have k3' := k3.other (show w.heap.size + 1 + 1 + 1 ≠ w.heap.size + 1 + 1 by omega) (.pointer none); have g3 := k3'.cell; have h3 := k3'.frozen; have HK2 : Hid (Boxed A1 (w.heap.size + 1 + 1) 57 (.pointer none)) := k2; have HK3 : Hid (Boxed _ (w.heap.size + 1 + 1 + 1) 32 (.int .i64 0)) := k3'; clear k2 k3 k3'))
  have r2 := ((HK2.out.set (.pointer none)).other (show w.heap.size + 1 + 1 ≠ w.heap.size + 1 + 1 + 1 by omega) (.int .i64 1)).cell
  have r3 := (HK3.out.set (.int .i64 1)).cell
  refine ⟨.tuple #[.pointer none, .int .i64 1], ?_, rfl, ?_⟩
  · simp [results, Tryz.f114, go_sem, r2, r3]
  · have hq := hB1.mono HB.out.size
    exact ((HB.out.trans hq).setCell (p := ⟨w.heap.size + 1 + 1, 0, none⟩) (by simp; omega) _).setCell (p := ⟨w.heap.size + 1 + 1 + 1, 0, none⟩) (by simp; omega) _
set_option maxRecDepth 100000 in
set_option maxHeartbeats 4000000 in
theorem new_lens (n : Nat) (a : Option Addr) (ns cs : Nat) (Q : Nat → Sch) (av : Option Addr) (nv cv : Nat) (at_ : Option Addr) (nt ct : Nat) (w : World) (H : Schs w a ns Q) (hb : bookZ ns Q = 0) (hne : ¬ nv = nt) :
    CallsIn Fence.wide n Tryz.prog 114 #[.slice a ns cs, .slice av nv cv, .slice at_ nt ct] w fun e w' => e = .returned (.tuple #[.pointer none, .int .i64 1]) ∧ Below w.heap.size w w' := by
  have hdd : ∀ k : Nat, (Fence.wide.depth.isSome = true → 1 ≤ k) := fun k h => by cases h
  obtain ⟨A, hA, hsz, hB, b0, b1, b2, b3⟩ := new_boxes w (.slice a ns cs) (.slice av nv cv)
  have CB : Calls Tryz.prog 112 #[.slice a ns cs] A fun e w' => e = .returned (.int .i64 (bookZ ns Q)) ∧ Below A.heap.size A w' := book_any a ns cs Q A (H.later hB)
  rw [hb] at CB
  have hne' : ((nv : Int) != (nt : Int)) = true := by simp; omega
  have HCB : Hid (Calls Tryz.prog 112 _ A _) := CB
  have HB : Hid (Below w.heap.size w A) := hB
  have K1 : Hid (Boxed A (w.heap.size + 1) 37 (.slice av nv cv)) := b1
  have K2 : Hid (Boxed A (w.heap.size + 1 + 1) 57 (.pointer none)) := b2
  have K3 : Hid (Boxed A (w.heap.size + 1 + 1 + 1) 32 (.int .i64 0)) := b3
  have c0 := b0.cell
  clear hB hsz b0 b1 b2 b3 H CB
  refine callsIn_of_wp_marks Tryz.func114 rfl trivial ?_ rfl
  simp only [Tryz.ntmps114, List.size_toArray, List.length_cons, List.length_nil, Nat.reduceAdd, Nat.reduceSub, Array.replicate_succ, Array.replicate_zero, List.push_toArray, List.append_toArray, List.nil_append, List.cons_append]
  gi_wp2_with (first
    | (refine ⟨trivial, hdd _, ?_⟩; gi_at_call 112; refine (callsIn_wide.2 HCB.out).mono ?_; rintro e A1 ⟨rfl, hB1⟩; have d1 := (Boxed.kept_of K1.out hB1 (Boxed.lt K1.out)).cell; have k2 := Boxed.kept_of K2.out hB1 (Boxed.lt K2.out); have k3 := Boxed.kept_of K3.out hB1 (Boxed.lt K3.out); have g2 := k2.cell; have h2 := k2.frozen; have k3' := k3.other (show w.heap.size + 1 + 1 + 1 ≠ w.heap.size + 1 + 1 by omega) (.pointer none); have g3 := k3'.cell; have h3 := k3'.frozen; have HK2 : Hid (Boxed A1 (w.heap.size + 1 + 1) 57 (.pointer none)) := k2; have HK3 : Hid (Boxed _ (w.heap.size + 1 + 1 + 1) 32 (.int .i64 0)) := k3'; clear k2 k3 k3'))
  have r2 := ((HK2.out.set (.pointer none)).other (show w.heap.size + 1 + 1 ≠ w.heap.size + 1 + 1 + 1 by omega) (.int .i64 1)).cell
  have r3 := (HK3.out.set (.int .i64 1)).cell
  refine ⟨.tuple #[.pointer none, .int .i64 1], ?_, rfl, ?_⟩
  · simp [results, Tryz.f114, go_sem, r2, r3]
  · have hq := hB1.mono HB.out.size
    exact ((HB.out.trans hq).setCell (p := ⟨w.heap.size + 1 + 1, 0, none⟩) (by simp; omega) _).setCell (p := ⟨w.heap.size + 1 + 1 + 1, 0, none⟩) (by simp; omega) _
/-- What New answers. -/
def NewIs (w : World) (nv : Nat) (V : Nat → ByteArray) (nt : Nat) (T : Nat → ByteArray) (ns : Nat) (Q : Nat → Sch) (e : Ending) (w' : World) : Prop :=
  (newZ nv nt T ns Q = 0 ∧ nv = nt ∧ ∃ p m S, e = .returned (.tuple #[.pointer (some ⟨p, 0, none⟩), .int .i64 0]) ∧ NamesIn w' p m nv V S ∧ (∀ j, j < nv → ∃ i, idx (fun i => (Q i).nm) (T j) ns = some i ∧ SameS (Q i) (S j)) ∧ Below w.heap.size w w') ∨
    (¬ newZ nv nt T ns Q = 0 ∧ e = .returned (.tuple #[.pointer none, .int .i64 (newZ nv nt T ns Q)]) ∧ Below w.heap.size w w')
theorem new_any (a : Option Addr) (ns cs : Nat) (Q : Nat → Sch) (av : Option Addr) (nv cv : Nat) (V : Nat → ByteArray) (at_ : Option Addr) (nt ct : Nat) (T : Nat → ByteArray) (w : World) (H : Schs w a ns Q) (hV : Txs w av nv V) (hT : Txs w at_ nt T) (hm : nt ≤ 1048576) (hVs : ∀ j, j < nv → (V j).size ≤ maxLen) :
    Calls Tryz.prog 114 #[.slice a ns cs, .slice av nv cv, .slice at_ nt ct] w fun e w' => NewIs w nv V nt T ns Q e w' := by
  refine (callsIn_wide (n := 3)).1 ?_
  by_cases hb : bookZ ns Q = 0
  · by_cases hne : nv = nt
    · subst hne
      refine (new_in 3 a ns cs Q av nv cv V at_ ct T w H hV hT hm hVs hb).mono ?_
      rintro e w' (⟨h1, p, m, S, h2⟩ | ⟨h1, h2⟩)
      · exact .inl ⟨by simp [newZ, hb, h1], rfl, p, m, S, h2⟩
      · have e6 : newZ nv nv T ns Q = 6 := by simp [newZ, hb, h1]
        exact .inr ⟨by omega, by rw [e6]; exact h2⟩
    · refine (new_lens 3 a ns cs Q av nv cv at_ nt ct w H hb hne).mono ?_
      rintro e w' h
      have e1 : newZ nv nt T ns Q = 1 := by simp [newZ, hne]
      exact .inr ⟨by omega, by rw [e1]; exact h⟩
  · refine (new_book 3 a ns cs Q av nv cv at_ nt ct w H hb).mono ?_
    rintro e w' h
    have e1 : newZ nv nt T ns Q = 1 := by simp [newZ, hb]
    exact .inr ⟨by omega, by rw [e1]; exact h⟩
end Go.Proofs.YtkfpgkohkhhlhaaGreatDoor
namespace Go.Proofs.YtkfpgkohkhhlhaaGreatDoor
open Go.RowKit

/-- Is a text among these? -/
def memB (l : List ByteArray) (s : ByteArray) : Bool := l.any fun t => decide (t = s)
theorem memB_iff {l : List ByteArray} {s : ByteArray} : memB l s = true ↔ s ∈ l := by
  rw [memB, List.any_eq_true]
  constructor
  · rintro ⟨t, ht, e⟩
    rw [← of_decide_eq_true e]; exact ht
  · exact fun h => ⟨s, h, decide_eq_true rfl⟩
theorem mem_atS {l : List ByteArray} {s : ByteArray} : s ∈ l ↔ ∃ j, j < l.length ∧ atS l j = s := by
  rw [← lstS_mem, lstS_all]
set_option maxRecDepth 100000 in
set_option maxHeartbeats 1000000 in
theorem indexS_any (a : Option Addr) (n cap : Nat) (l : List ByteArray) (s : ByteArray) (w : World) (h : Txs w a n (atS l)) (hl : l.length = n) (hn : n ≤ 9223372036854775807) :
    Calls Tryz.prog 95 #[.slice a n cap, .string s] w fun e w' => ∃ i : Int, e = .returned (.int .i64 i) ∧ (0 ≤ i ↔ s ∈ l) ∧ ∃ q, w' = w.drewN q := by
  have HT : Hid (Txs w a n (atS l)) := h
  have HL : Hid (l.length = n) := hl
  clear h hl
  go_enter Tryz.func95, Tryz.ntmps95
  go_wp2
  go_loopw [8] (fun u wr => ∃ k : Nat, k ≤ n ∧ u = .int .i64 k ∧ Hid (∀ j, j < k → atS l j ≠ s) ∧ ∃ q, wr = w.drewN q) (fun u _ => n - (intOf u).toNat)
  case atStart => exact ⟨0, Nat.zero_le _, rfl, fun j hj => absurd hj (Nat.not_lt_zero _), 0, rfl⟩
  case round =>
    obtain ⟨k, hk, rfl, Hne, q, rfl⟩ := hrel
    by_cases hkn : k < n
    · obtain ⟨b, o, rfl, hc⟩ := HT.out (by omega)
      have hck := hc k hkn
      have hck' : ∀ q, (w.drewN q).cell? ⟨b, o + k, none⟩ = some (.string (atS l k)) := fun q => hck
      have HK : Hid (k < n) := hkn
      clear hc hck
      by_cases e : atS l k = s
      · have es := str_yes e
        have es' := str_yes e.symm
        have HE : Hid (atS l k = s) := e
        clear e
        go_wp2
        try go_quiet (fail)
        try go_wp2
        go_ret
        exact ⟨_, rfl, ⟨fun _ => mem_atS.2 ⟨k, by rw [HL.out]; exact HK.out, HE.out⟩, fun _ => by omega⟩, _, rfl⟩
      · have es := str_not e
        have es' := str_not (fun h => e (Eq.symm h))
        have HE : Hid (¬ atS l k = s) := e
        clear e
        go_wp2
        try go_quiet (fail)
        try go_wp2
        go_roundw
        case rel =>
          refine ⟨k + 1, HK.out, by simp, fun j hj => ?_, _, rfl⟩
          by_cases ej : j = k
          · rw [ej]; exact HE.out
          · exact Hne.out j (by omega)
        case measure => have := HK.out; simp [intOf]; omega
    · have hkn' : k = n := by omega
      subst hkn'
      go_wp2
      go_ret
      refine ⟨_, rfl, ⟨fun h => absurd h (by decide), fun h => ?_⟩, _, rfl⟩
      obtain ⟨j, hj, e⟩ := mem_atS.1 h
      exact absurd e (Hne.out j (by rw [← HL.out]; exact hj))
set_option maxHeartbeats 1000000 in
theorem containsS_any (a : Option Addr) (n cap : Nat) (l : List ByteArray) (s : ByteArray) (w : World) (h : Txs w a n (atS l)) (hl : l.length = n) (hn : n ≤ 9223372036854775807) :
    Calls Tryz.prog 42 #[.slice a n cap, .string s] w fun e w' => e = .returned (.bool (memB l s)) ∧ ∃ q, w' = w.drewN q := by
  have C := indexS_any a n cap l s w h hl hn
  clear h hl
  go_enter Tryz.func42, Tryz.ntmps42
  go_wp2_with (go_at_call 95; refine C.mono ?_; rintro e w2 ⟨i, rfl, hi, q, rfl⟩)
  go_ret
  exact ⟨by rw [show memB l s = decide (0 ≤ i) by rw [Bool.eq_iff_iff, memB_iff, ← hi, decide_eq_true_eq]]; rfl, q, rfl⟩
end Go.Proofs.YtkfpgkohkhhlhaaGreatDoor
