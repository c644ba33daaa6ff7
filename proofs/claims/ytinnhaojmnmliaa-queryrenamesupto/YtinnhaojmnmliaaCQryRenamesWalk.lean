/-
  QueryRenames' walk: a query with other names.
  Patterns that came in.
  Of what came in: cells of small types, and values.
  Conditions that came in.
  Texts and lists of texts that came in.
  Texts, lists of texts and lists of conditions that came in.
-/
import Derived.Test.YtinnhaojmnmliaaCQryRefRename
import Derived.Test.YtinnhaojmnmliaaCQryRefSame
import Derived.Test.YtinnhaojmnmliaaCNamesMath
import Derived.Test.YtinnhaojmnmliaaCPatRefSame
import Derived.Test.YtinnhaojmnmliaaCTxt
import Derived.Deep.DeepCutAuto
import Derived.Deep.Strs
namespace Go.Proofs.Ytinnhaojmnmliaa
open Go.RowKit

/-- Two that were both renamed alike are the same. -/
theorem RnQ.same {g : ByteArray → ByteArray} {q r t : Qy} (h : RnQ g q r) (k : RnQ g q t) : sameQ r t = true := by
  obtain ⟨-, -, -, -, n1, x1⟩ := (ordX_zero _ _).1 h.x
  obtain ⟨-, -, -, -, n2, x2⟩ := (ordX_zero _ _).1 k.x
  have hn : r.n = t.n := n1.trans n2.symm
  refine (sameQ_iff r t).2 ⟨h.p.trans k.p.symm, h.key.trans k.key.symm, h.mode.trans k.mode.symm, h.win.trans k.win.symm, hn, h.m.trans k.m.symm, fun i hi => ?_, fun i hi => ?_⟩
  · exact ordX_ztrans (x1 i hi) (ordX_zsymm (x2 i (show i < t.n from hn ▸ hi)))
  · have hi' : i < q.m := h.m ▸ hi
    rw [h.it i hi', k.it i hi']
theorem both_sameQ {d : World} {y z G : Qy} {g : ByteArray → ByteArray} (hy : IsQ d y) (hz : IsQ d z) (h1 : RnQ g G y) (h2 : RnQ g G z) : Calls Try.prog 26 #[y.val, z.val] d fun e w' => e = .returned (.bool true) ∧ Below d.heap.size d w' := by
  have := refSameQ_any y z d hy hz
  rw [h1.same h2] at this
  exact this
theorem boxQ_one (q : Qy) (w : World) : ∃ A, w.alloc (.cells q.cells 43) = A ∧ Below w.heap.size w A ∧ A.heap.size = w.heap.size + 1 ∧ QB A w.heap.size q := ⟨_, rfl, (Below.refl _ _).alloc (Nat.le_refl _) _, by simp, QB.new w q⟩
set_option maxRecDepth 100000 in
set_option maxHeartbeats 8000000 in
theorem queryRenames_walk (x : Qy) (a1 a2 : Option Addr) (m1 m2 c1 c2 : Nat) (S T : Nat → ByteArray) (w : World) (hX : IsQ w x) (hok : QOk x) (hsm : x.bulk ≤ 1048576) (hS : Txs w a1 m1 S) (hT : Txs w a2 m2 T) (hm1 : m1 ≤ 1048576) (hm2 : m2 ≤ 1048576) (hc1 : m1 ≤ c1) (hcm : c1 ≤ 9223372036854775807) (zS : ∀ j, j < m1 → (S j).size ≤ maxLen) :
    Calls Try.prog 4 #[x.val, .slice a1 m1 c1, .slice a2 m2 c2] w fun e w' => e = .returned (.bool true) ∧ Below w.heap.size w w' := by
  obtain ⟨A, hA, hB, hs, hn⟩ := boxQ_one x w
  obtain ⟨⟨a0, a1', a2', a3, a4', a5⟩, a6, a7, a8, a9, a10⟩ := hn.at0
  have HB : Hid (Below w.heap.size w A) := hB
  have NX : Hid (QB A w.heap.size x) := hn
  have L1 : Hid (Calls Try.prog 24 #[x.val] A (SomeB A)) := lightQ_any x A (hX.later hB) hsm
  have W1 : Hid (∀ d, Calls Try.prog 25 #[] d fun e w' => e = .returned (.bool true) ∧ Below d.heap.size d w') := fun d => awake13_any d
  obtain ⟨g, hg⟩ : ∃ g, g = nameX S T (min m1 m2) := ⟨_, rfl⟩
  have R1' : Hid (∀ d, Below A.heap.size A d → Calls Try.prog 27 #[x.val, .slice a1 m1 c1, .slice a2 m2 c2] d fun e w' => ∃ y : Qy, e = .returned y.val ∧ Hid (IsQ w' y ∧ RnQ g x y) ∧ Below d.heap.size d w') := fun d h => by
    have hd := hB.trans (h.mono (by omega))
    refine (renameQ_any x a1 a2 m1 m2 c1 c2 S T d (hX.later hd) hok hsm (hS.later hd) (hT.later hd) hm1 hm2 hc1 hcm zS).mono ?_
    rintro e w' ⟨y, rfl, q1, q2, q3⟩
    exact ⟨y, rfl, ⟨q1, by rw [hg]; exact q2⟩, q3⟩
  have R2' : Hid (∀ d, Below A.heap.size A d → Calls Try.prog 28 #[x.val, .slice a1 m1 c1, .slice a2 m2 c2] d fun e w' => ∃ y : Qy, e = .returned y.val ∧ Hid (IsQ w' y ∧ RnQ g x y) ∧ Below d.heap.size d w') := fun d h => by
    have hd := hB.trans (h.mono (by omega))
    refine (refRenameQ_any x a1 a2 m1 m2 c1 c2 S T d (hX.later hd) hsm (hS.later hd) (hT.later hd) hm1 hm2).mono ?_
    rintro e w' ⟨y, rfl, q1, q2, q3⟩
    exact ⟨y, rfl, ⟨q1, by rw [hg]; exact q2⟩, q3⟩
  clear hB hn hX hok hsm hS hT hm1 hm2 hc1 hcm zS hg
  go_enter Try.func4, Try.ntmps4
  go_upto_region 1 with fail
  clear hA
  go_upto_region 3 with (first
    | (go_at_call 24; refine L1.out.mono ?_; clear L1; rintro e w1 ⟨b, rfl, hB1⟩; cases b)
    | (go_at_call 25; refine (W1.out _).mono ?_; clear W1; rintro e w2 ⟨rfl, hB2⟩))
  · go_ret
    exact ⟨rfl, HB.out.trans ((hB1.trans (hB2.mono hB1.size)).mono (by omega))⟩
  generalize w1 = W at *
  have HW : Hid (Below A.heap.size A W) := hB1
  have PX : Hid (QB W w.heap.size x) := NX.out.later hB1
  have R1 : Hid (∀ d, Below W.heap.size W d → Calls Try.prog 27 #[x.val, .slice a1 m1 c1, .slice a2 m2 c2] d fun e w' => ∃ y : Qy, e = .returned y.val ∧ Hid (IsQ w' y ∧ RnQ g x y) ∧ Below d.heap.size d w') := fun d h => R1'.out d (hB1.trans (h.mono hB1.size))
  have R2 : Hid (∀ d, Below W.heap.size W d → Calls Try.prog 28 #[x.val, .slice a1 m1 c1, .slice a2 m2 c2] d fun e w' => ∃ y : Qy, e = .returned y.val ∧ Hid (IsQ w' y ∧ RnQ g x y) ∧ Below d.heap.size d w') := fun d h => R2'.out d (hB1.trans (h.mono hB1.size))
  clear R1' R2' hB1 NX a0 a1' a2' a3 a4' a5 a6 a7 a8 a9 a10
  refine wp_region_noPanic ?_
  refine wp_region_held_drew (S := fun w' => Below W.heap.size W w') (by kernel_rfl) ((Below.refl _ _).drew) (fun hHeld => ?_)
  have hT : Below W.heap.size W W.drew := hHeld
  obtain ⟨d, hdw⟩ : ∃ d, d = W.drew := ⟨_, rfl⟩
  rw [← hdw] at hHeld hT ⊢
  clear hdw
  refine wpAnyH_take (i := 0) (oi := ⟨some 11, Op.load 43 (Operand.tmp 3), 43, _, _, _⟩) (v := ?v0) rfl (by kernel_rfl) (by kernel_rfl) (by kernel_rfl) (fun _ _ _ h => h) (Or.inl ⟨by rfl, ?hy0⟩) hHeld ?rest0
  case hy0 => intro w9 hSw; obtain ⟨⟨d0, d1, d2, d3, d4, d5⟩, d6, d7, d8, d9, d10⟩ := (PX.out.later hSw).at0; go_simp; (try with_reducible rfl)
  try simp only [Act.put, List.setIfInBounds_toArray, List.set_cons_zero, List.set_cons_succ]
  refine wpAnyH_take (i := 1) (oi := ⟨some 12, Op.move (Operand.tmp 1), 28, _, _, _⟩) (v := ?v1) rfl (by kernel_rfl) (by kernel_rfl) (by kernel_rfl) (fun _ _ _ h => h) (Or.inl ⟨by rfl, ?hy1⟩) hHeld ?rest1
  case hy1 => intro w9 hSw; go_simp; (try with_reducible rfl)
  try simp only [Act.put, List.setIfInBounds_toArray, List.set_cons_zero, List.set_cons_succ]
  refine wpAnyH_take (i := 2) (oi := ⟨some 13, Op.move (Operand.tmp 2), 28, _, _, _⟩) (v := ?v2) rfl (by kernel_rfl) (by kernel_rfl) (by kernel_rfl) (fun _ _ _ h => h) (Or.inl ⟨by rfl, ?hy2⟩) hHeld ?rest2
  case hy2 => intro w9 hSw; go_simp; (try with_reducible rfl)
  try simp only [Act.put, List.setIfInBounds_toArray, List.set_cons_zero, List.set_cons_succ]
  refine wpAnyH_take (i := 4) (oi := ⟨some 15, Op.load 43 (Operand.tmp 3), 43, _, _, _⟩) (v := ?v4) rfl (by kernel_rfl) (by kernel_rfl) (by kernel_rfl) (fun _ _ _ h => h) (Or.inl ⟨by rfl, ?hy4⟩) hHeld ?rest4
  case hy4 => intro w9 hSw; obtain ⟨⟨d0, d1, d2, d3, d4, d5⟩, d6, d7, d8, d9, d10⟩ := (PX.out.later hSw).at0; go_simp; (try with_reducible rfl)
  try simp only [Act.put, List.setIfInBounds_toArray, List.set_cons_zero, List.set_cons_succ]
  refine wpAnyH_take (i := 5) (oi := ⟨some 16, Op.move (Operand.tmp 1), 28, _, _, _⟩) (v := ?v5) rfl (by kernel_rfl) (by kernel_rfl) (by kernel_rfl) (fun _ _ _ h => h) (Or.inl ⟨by rfl, ?hy5⟩) hHeld ?rest5
  case hy5 => intro w9 hSw; go_simp; (try with_reducible rfl)
  try simp only [Act.put, List.setIfInBounds_toArray, List.set_cons_zero, List.set_cons_succ]
  refine wpAnyH_take (i := 6) (oi := ⟨some 17, Op.move (Operand.tmp 2), 28, _, _, _⟩) (v := ?v6) rfl (by kernel_rfl) (by kernel_rfl) (by kernel_rfl) (fun _ _ _ h => h) (Or.inl ⟨by rfl, ?hy6⟩) hHeld ?rest6
  case hy6 => intro w9 hSw; go_simp; (try with_reducible rfl)
  try simp only [Act.put, List.setIfInBounds_toArray, List.set_cons_zero, List.set_cons_succ]
  refine wpAnyH_ready (rs := [3]) (by kernel_rfl) (by simp) ?_
  refine AllReadyH.cons (o := ⟨some 14, Op.call { callee := Callee.value (Operand.func 27), args := #[Operand.tmp 11, Operand.tmp 12, Operand.tmp 13], argTypes := #[43, 28, 28] }, 43, _, _, _⟩) rfl (fun K hK => ?_) AllReadyH.nil
  go_simp
  refine (R1.out _ hT).mono ?_
  rintro e x3 ⟨y3, rfl, h3, hN3⟩
  go_wp2_with fail
  have hT3 : Below W.heap.size W x3 := hT.trans (hN3.mono hT.size)
  refine hK.out _ _ (hHeld.trans (hN3.mono hHeld.size)) (fun _ => held_up (S' := fun w' => Below x3.heap.size x3 w') (fun w' h' => (hHeld.trans (hN3.mono hHeld.size)).trans (h'.mono (Nat.le_trans hHeld.size hN3.size))) _ _ _ _ ?_)
  clear hK K hHeld hT
  have hT : Below W.heap.size W x3 := hT3
  have hHeld : Below x3.heap.size x3 x3 := Below.refl _ _
  clear hT3 hN3
  try simp only [Act.put, List.setIfInBounds_toArray, List.set_cons_zero, List.set_cons_succ]
  refine wpAnyH_ready (rs := [7]) (by kernel_rfl) (by simp) ?_
  refine AllReadyH.cons (o := ⟨some 18, Op.call { callee := Callee.value (Operand.func 28), args := #[Operand.tmp 15, Operand.tmp 16, Operand.tmp 17], argTypes := #[43, 28, 28] }, 43, _, _, _⟩) rfl (fun K hK => ?_) AllReadyH.nil
  go_simp
  refine (R2.out _ hT).mono ?_
  rintro e x7 ⟨y7, rfl, h7, hN7⟩
  have C8 : Hid (Calls Try.prog 26 #[y3.val, y7.val] x7 fun e w2 => e = .returned (.bool true) ∧ Below x7.heap.size x7 w2) := both_sameQ (h3.out.1.later hN7) h7.out.1 h3.out.2 h7.out.2
  go_wp2_with fail
  have hT7 : Below W.heap.size W x7 := hT.trans (hN7.mono hT.size)
  refine hK.out _ _ (hHeld.trans (hN7.mono hHeld.size)) (fun _ => held_up (S' := fun w' => Below x7.heap.size x7 w') (fun w' h' => (hHeld.trans (hN7.mono hHeld.size)).trans (h'.mono (Nat.le_trans hHeld.size hN7.size))) _ _ _ _ ?_)
  clear hK K hHeld hT
  have hT : Below W.heap.size W x7 := hT7
  have hHeld : Below x7.heap.size x7 x7 := Below.refl _ _
  clear hT7 hN7
  try simp only [Act.put, List.setIfInBounds_toArray, List.set_cons_zero, List.set_cons_succ]
  refine wpAnyH_ready (rs := [8]) (by kernel_rfl) (by simp) ?_
  refine AllReadyH.cons (o := ⟨some 19, Op.call { callee := Callee.value (Operand.func 26), args := #[Operand.tmp 14, Operand.tmp 18], argTypes := #[43, 43] }, 4, _, _, _⟩) rfl (fun K hK => ?_) AllReadyH.nil
  go_simp
  refine (C8.out).mono ?_
  rintro e x8 ⟨rfl, hN8⟩
  go_wp2_with fail
  have hT8 : Below W.heap.size W x8 := hT.trans (hN8.mono hT.size)
  refine hK.out _ _ (hHeld.trans (hN8.mono hHeld.size)) (fun _ => held_up (S' := fun w' => Below x8.heap.size x8 w') (fun w' h' => (hHeld.trans (hN8.mono hHeld.size)).trans (h'.mono (Nat.le_trans hHeld.size hN8.size))) _ _ _ _ ?_)
  clear hK K hHeld hT
  have hT : Below W.heap.size W x8 := hT8
  have hHeld : Below x8.heap.size x8 x8 := Below.refl _ _
  clear hT8 hN8
  try simp only [Act.put, List.setIfInBounds_toArray, List.set_cons_zero, List.set_cons_succ]
  refine wpAnyH_take (i := 9) (oi := ⟨some 20, Op.move (Operand.tmp 19), 4, _, _, _⟩) (v := ?v9) rfl (by kernel_rfl) (by kernel_rfl) (by kernel_rfl) (fun _ _ _ h => h) (Or.inl ⟨by rfl, ?hy9⟩) hHeld ?rest9
  case hy9 => intro w9 hSw; go_simp; (try with_reducible rfl)
  try simp only [Act.put, List.setIfInBounds_toArray, List.set_cons_zero, List.set_cons_succ]
  refine wpAnyH_ready (rs := [10]) (by kernel_rfl) (by simp) ?_
  refine AllReadyH.cons (o := ⟨some 21, Op.call { callee := Callee.value (Operand.func 25), args := #[], argTypes := #[] }, 4, _, _, _⟩) rfl (fun K hK => ?_) AllReadyH.nil
  go_simp
  refine (W1.out _).mono ?_
  rintro e x10 ⟨rfl, hN10⟩
  go_wp2_with fail
  have hT10 : Below W.heap.size W x10 := hT.trans (hN10.mono hT.size)
  refine hK.out _ _ (hHeld.trans (hN10.mono hHeld.size)) (fun _ => held_up (S' := fun w' => Below x10.heap.size x10 w') (fun w' h' => (hHeld.trans (hN10.mono hHeld.size)).trans (h'.mono (Nat.le_trans hHeld.size hN10.size))) _ _ _ _ ?_)
  clear hK K hHeld hT
  have hT : Below W.heap.size W x10 := hT10
  have hHeld : Below x10.heap.size x10 x10 := Below.refl _ _
  clear hT10 hN10
  try simp only [Act.put, List.setIfInBounds_toArray, List.set_cons_zero, List.set_cons_succ]
  refine wpAnyH_take (i := 11) (oi := ⟨some 22, Op.pick (Operand.tmp 20) (Operand.tmp 21) (Operand.const (Value.bool false)), 4, _, _, _⟩) (v := ?v11) rfl (by kernel_rfl) (by kernel_rfl) (by kernel_rfl) (fun _ _ _ h => h) (Or.inl ⟨by rfl, ?hy11⟩) hHeld ?rest11
  case hy11 => intro w9 hSw; go_simp; (try with_reducible rfl)
  try simp only [Act.put, List.setIfInBounds_toArray, List.set_cons_zero, List.set_cons_succ]
  refine wpAnyH_take (i := 12) (oi := ⟨some 6, Op.assign (Operand.tmp 22), 4, _, _, _⟩) (v := ?v12) rfl (by kernel_rfl) (by kernel_rfl) (by kernel_rfl) (fun _ _ _ h => h) (Or.inl ⟨by rfl, ?hy12⟩) hHeld ?rest12
  case hy12 => intro w9 hSw; go_simp; (try with_reducible rfl)
  try simp only [Act.put, List.setIfInBounds_toArray, List.set_cons_zero, List.set_cons_succ]
  refine wpAnyH_done (by kernel_rfl) ?_ _
  refine NoPanic.normal ?_
  go_wp2
  go_ret
  exact ⟨rfl, HB.out.trans ((HW.out.trans (hT.mono HW.out.size)).mono (by omega))⟩
end Go.Proofs.Ytinnhaojmnmliaa
namespace Go.Proofs.Ytinnhaojmnmliaa
open Go.RowKit Go.ChangeShapes Go.WideShapes

section
variable {H : Type} {enc : TypeId × Value → H} {w : World} {base : Nat} {spare : Nat → Bool} {held : Bool}
theorem pat_under : ∃ f0 f1 f2 f3 f4 f5 : Field, Try.prog.underlying 24 = some (.struct #[f0, f1, f2, f3, f4, f5]) ∧ f0.offset = 0 ∧ f1.offset = 1 ∧ f2.offset = 2 ∧ f3.offset = 3 ∧ f4.offset = 4 ∧ f5.offset = 5 ∧ f0.type = 3 ∧ f1.type = 9 ∧ f2.type = 9 ∧ f3.type = 3 ∧ f4.type = 3 ∧ f5.type = 22 := ⟨_, _, _, _, _, _, Try.underlying24, rfl, rfl, rfl, rfl, rfl, rfl, rfl, rfl, rfl, rfl, rfl, rfl⟩
theorem cells_p : Try.prog.cellsOf 24 = 6 := by kernel_rfl
theorem cells_pl : Try.prog.cellsOf 22 = 1 := by kernel_rfl
set_option maxRecDepth 100000 in
/-- A pattern's cells, read: as a tree, of no more nodes than the reading's bulk. -/
theorem trod_p : ∀ (m fuel : Nat) (cs : List Value) (x : DataW H × List MemPlace), DataW.trod enc Try.prog w base spare held fuel 24 cs = some x → Rows.uptoBulk x.1 ≤ m →
    ∃ q : Pt, cs = [.int .i64 q.k, .string q.s, .string q.t, .int .i64 q.lo, .int .i64 q.hi, .slice q.a q.n q.cap] ∧ IsP w q ∧ q.size ≤ Rows.uptoBulk x.1 ∧ POk q := by
  intro m
  induction m with
  | zero =>
    intro fuel cs x h hm
    obtain ⟨f0, f1, f2, f3, f4, f5, hu, -⟩ := pat_under
    obtain ⟨xs, n, rfl, rfl, -⟩ := DataW.trod_struct hu h
    simp [Rows.uptoBulk] at hm
  | succ m ih =>
    intro fuel cs x h hm
    obtain ⟨f0, f1, f2, f3, f4, f5, hu, o0, o1, o2, o3, o4, o5, t0, t1, t2, t3, t4, t5⟩ := pat_under
    obtain ⟨xs, n, rfl, rfl, hl, hlen, hf⟩ := DataW.trod_struct hu h
    rw [cells_p] at hl
    match xs, hlen, cs, hl with
    | [y0, y1, y2, y3, y4, y5], _, [c0, c1, c2, c3, c4, c5], _ =>
      have hb : Rows.uptoBulk y5.1 + 1 ≤ Rows.uptoBulk (DataW.agg (H := H) ([y0, y1, y2, y3, y4, y5].map (·.1))) := by
        simp only [List.map_cons, List.map_nil, Rows.uptoBulk, Rows.uptoBulkAll]
        omega
      dsimp only at hm ⊢
      clear h
      generalize Rows.uptoBulk (DataW.agg (H := H) ([y0, y1, y2, y3, y4, y5].map (·.1))) = M at hb hm ⊢
      have g0 := hf 0 f0 rfl
      have g1 := hf 1 f1 rfl
      have g2 := hf 2 f2 rfl
      have g3 := hf 3 f3 rfl
      have g4 := hf 4 f4 rfl
      have g5 := hf 5 f5 rfl
      rw [o0, t0, cells_i] at g0
      rw [o1, t1, cells_s] at g1
      rw [o2, t2, cells_s] at g2
      rw [o3, t3, cells_i] at g3
      rw [o4, t4, cells_i] at g4
      rw [o5, t5, cells_pl] at g5
      simp at g0 g1 g2 g3 g4 g5
      obtain ⟨k, e0, rfl, w0⟩ := DataW.trod_int Try.underlying3 g0
      obtain ⟨s, e1, rfl, w2⟩ := DataW.trod_string Try.underlying9 g1
      obtain ⟨t, e2, rfl, w3⟩ := DataW.trod_string Try.underlying9 g2
      obtain ⟨lo, e3, rfl, _⟩ := DataW.trod_int Try.underlying3 g3
      obtain ⟨hi, e5, rfl, _⟩ := DataW.trod_int Try.underlying3 g4
      simp at e0 e1 e2 e3 e5
      subst e0 e1 e2 e3 e5
      rcases Deep.open_slice Try.underlying22 g5 with ⟨e4, _⟩ | ⟨a, len, cap, mm, nn, D, Pl, e4, _, hl4, hcm, hmm, rfl, hx⟩
      · simp at e4
        subst e4
        exact ⟨.mk k s t lo hi none 0 0 (fun _ => .nil), rfl, ⟨by omega, by omega, fun i hi => by omega⟩, by simp only [Pt.size, sumN]; omega, w2, w3, fun i hi => by omega⟩
      · simp at e4
        subst e4
        have hlm : len ≤ mm := by rw [hmm]; split <;> omega
        have hB : sumN (fun i => Rows.uptoBulk (D i)) len + 1 ≤ Rows.uptoBulk (DataW.slice (H := H) ((List.range len).map D) ((List.range (mm - len)).map fun j => D (len + j))) := by
          simp only [Rows.uptoBulk, bulk_range]
          omega
        simp only at hb
        have each : ∀ i, i < len → ∃ q : Pt, w.cell? (a.add (i * 6)) = some (.int .i64 q.k) ∧ w.cell? (a.add (i * 6 + 1)) = some (.string q.s) ∧ w.cell? (a.add (i * 6 + 2)) = some (.string q.t) ∧ w.cell? (a.add (i * 6 + 3)) = some (.int .i64 q.lo) ∧
            w.cell? (a.add (i * 6 + 4)) = some (.int .i64 q.hi) ∧ w.cell? (a.add (i * 6 + 5)) = some (.slice q.a q.n q.cap) ∧ IsP w q ∧ q.size ≤ Rows.uptoBulk (D i) ∧ POk q := by
          intro i hi
          obtain ⟨cs', h1, h2⟩ := hx i (by omega)
          rw [cells_p] at h1
          obtain ⟨_, hlen, hcell⟩ := World.cells?_some h1
          have hle := sumN_le (f := fun i => Rows.uptoBulk (D i)) hi
          obtain ⟨q, rfl, hq, hqs, hqo⟩ := ih _ _ _ h2 (by simp only; omega)
          have d0 := hcell 0 (by omega)
          have d1 := hcell 1 (by omega)
          have d2 := hcell 2 (by omega)
          have d3 := hcell 3 (by omega)
          have d4 := hcell 4 (by omega)
          have d5 := hcell 5 (by omega)
          rw [Deep.add_add] at d0 d1 d2 d3 d4 d5
          exact ⟨q, by simpa using d0, by simpa using d1, by simpa using d2, by simpa using d3, by simpa using d4, by simpa using d5, hq, hqs, hqo⟩
        have : Inhabited Pt := ⟨.nil⟩
        obtain ⟨q, hq⟩ := Deep.choose_lt each
        refine ⟨.mk k s t lo hi (some a) len cap q, rfl, ⟨hl4, by unfold maxLen at hcm; omega, fun i hi => ?_⟩, ?_, w2, w3, fun i hi => (hq i hi).2.2.2.2.2.2.2.2⟩
        · obtain ⟨b, off, spot⟩ := a
          obtain ⟨d0, d1, d2, d3, d4, d5, hi1, hi2, -⟩ := hq i hi
          have hspot : spot = none := by simpa [Addr.add] using World.cell?_spot (hq 0 (by omega)).1
          subst hspot
          rw [add_none] at d0 d1 d2 d3 d4 d5
          refine ⟨b, off, rfl, ⟨?_, ?_, ?_, ?_, ?_, ?_⟩, hi1⟩
          · exact d0
          · rw [Nat.add_assoc]; exact d1
          · rw [Nat.add_assoc]; exact d2
          · rw [Nat.add_assoc]; exact d3
          · rw [Nat.add_assoc]; exact d4
          · rw [Nat.add_assoc]; exact d5
        · have h1 := sumN_mono (f := fun i => (q i).size) (g := fun i => Rows.uptoBulk (D i)) (n := len) fun i hi => (hq i hi).2.2.2.2.2.2.2.1
          show 1 + sumN (fun i => (q i).size) len ≤ _
          omega
set_option maxRecDepth 100000 in
/-- A pattern that came in. -/
theorem open_p {v : Value} {d : DataW H} {p : List MemPlace} {r : Reach} {b0 : Nat} (hv : Value.okWide Try.prog w r b0 24 v) (h : DataW.Trod enc Try.prog w base spare held 24 v d p) :
    ∃ q : Pt, v = q.val ∧ IsP w q ∧ q.size ≤ Rows.uptoBulk d ∧ POk q := by
  obtain ⟨f0, f1, f2, f3, f4, f5, hu, -⟩ := pat_under
  obtain ⟨cs, rfl, hc⟩ := okWide_struct hu hv
  obtain ⟨fuel, hf⟩ := h
  obtain ⟨q, e, hq, hs, ho⟩ := trod_p _ _ _ _ hf (Nat.le_refl _)
  simp only [Value.cells] at e
  refine ⟨q, ?_, hq, hs, ho⟩
  have : cs = #[.int .i64 q.k, .string q.s, .string q.t, .int .i64 q.lo, .int .i64 q.hi, .slice q.a q.n q.cap] := by
    apply Array.ext'
    simpa using e
  rw [this]
end
end Go.Proofs.Ytinnhaojmnmliaa
namespace Go.Proofs.Ytinnhaojmnmliaa
open Go.RowKit Go.ChangeShapes Go.WideShapes

section
variable {H : Type} {enc : TypeId × Value → H} {w : World} {base : Nat} {spare : Nat → Bool} {held : Bool}
theorem val_under : ∃ f0 f1 f2 : Field, Try.prog.underlying 67 = some (.struct #[f0, f1, f2]) ∧ f0.offset = 0 ∧ f1.offset = 1 ∧ f2.offset = 2 ∧ f0.type = 3 ∧ f1.type = 2 ∧ f2.type = 9 := ⟨_, _, _, Try.underlying67, rfl, rfl, rfl, rfl, rfl, rfl⟩
theorem cells_v : Try.prog.cellsOf 67 = 3 := by kernel_rfl
theorem cells_n : Try.prog.cellsOf 2 = 1 := by kernel_rfl
/-- The cells of a value, read. -/
theorem trod_val {fuel : Nat} {cs : List Value} {x : DataW H × List MemPlace} (h : DataW.trod enc Try.prog w base spare held fuel 67 cs = some x) :
    ∃ q : Val, cs = [.int .i64 q.k, .int .i64 q.n, .string q.s] := by
  obtain ⟨f0, f1, f2, hu, o0, o1, o2, t0, t1, t2⟩ := val_under
  obtain ⟨y0, y1, y2, m, rfl, hl, g0, g1, g2⟩ := Deep.trod_struct3 hu h
  rw [cells_v] at hl
  rw [o0, t0, cells_i] at g0
  rw [o1, t1, cells_n] at g1
  rw [o2, t2, cells_s] at g2
  match cs, hl with
  | [c0, c1, c2], _ =>
    obtain ⟨k, e0, rfl, w0⟩ := DataW.trod_int Try.underlying3 g0
    obtain ⟨n, e1, rfl, w1⟩ := DataW.trod_int Try.underlying2 g1
    obtain ⟨s, e2, rfl, w2⟩ := DataW.trod_string Try.underlying9 g2
    simp at e0 e1 e2
    subst e0 e1 e2
    exact ⟨⟨k, n, s⟩, rfl⟩
end
end Go.Proofs.Ytinnhaojmnmliaa
namespace Go.Proofs.Ytinnhaojmnmliaa
open Go.RowKit Go.ChangeShapes Go.WideShapes

section
variable {H : Type} {enc : TypeId × Value → H} {w : World} {base : Nat} {spare : Nat → Bool} {held : Bool}
theorem expr_under : ∃ f0 f1 f2 f3 f4 : Field, Try.prog.underlying 69 = some (.struct #[f0, f1, f2, f3, f4]) ∧ f0.offset = 0 ∧ f1.offset = 1 ∧ f2.offset = 4 ∧ f3.offset = 5 ∧ f4.offset = 6 ∧ f0.type = 3 ∧ f1.type = 67 ∧ f2.type = 9 ∧ f3.type = 9 ∧ f4.type = 40 := ⟨_, _, _, _, _, Try.underlying69, rfl, rfl, rfl, rfl, rfl, rfl, rfl, rfl, rfl, rfl⟩
theorem cells_x : Try.prog.cellsOf 69 = 7 := by kernel_rfl
theorem cells_xl : Try.prog.cellsOf 40 = 1 := by kernel_rfl
set_option maxRecDepth 100000 in
/-- A condition's cells, read: as a tree, of no more nodes than the reading's bulk. -/
theorem trod_x : ∀ (m fuel : Nat) (cs : List Value) (x : DataW H × List MemPlace), DataW.trod enc Try.prog w base spare held fuel 69 cs = some x → Rows.uptoBulk x.1 ≤ m →
    ∃ q : X, cs = [.int .i64 q.k, .int .i64 q.v.k, .int .i64 q.v.n, .string q.v.s, .string q.s, .string q.f, .slice q.a q.n q.cap] ∧ IsX w q ∧ q.size ≤ Rows.uptoBulk x.1 ∧ XOk q := by
  intro m
  induction m with
  | zero =>
    intro fuel cs x h hm
    obtain ⟨f0, f1, f2, f3, f4, hu, -⟩ := expr_under
    obtain ⟨xs, n, rfl, rfl, -⟩ := DataW.trod_struct hu h
    simp [Rows.uptoBulk] at hm
  | succ m ih =>
    intro fuel cs x h hm
    obtain ⟨f0, f1, f2, f3, f4, hu, o0, o1, o2, o3, o4, t0, t1, t2, t3, t4⟩ := expr_under
    obtain ⟨xs, n, rfl, rfl, hl, hlen, hf⟩ := DataW.trod_struct hu h
    rw [cells_x] at hl
    match xs, hlen, cs, hl with
    | [y0, y1, y2, y3, y4], _, [c0, c1, c2, c3, c4, c5, c6], _ =>
      have hb : Rows.uptoBulk y4.1 + 1 ≤ Rows.uptoBulk (DataW.agg (H := H) ([y0, y1, y2, y3, y4].map (·.1))) := by
        simp only [List.map_cons, List.map_nil, Rows.uptoBulk, Rows.uptoBulkAll]
        omega
      dsimp only at hm ⊢
      clear h
      generalize Rows.uptoBulk (DataW.agg (H := H) ([y0, y1, y2, y3, y4].map (·.1))) = M at hb hm ⊢
      have g0 := hf 0 f0 rfl
      have g1 := hf 1 f1 rfl
      have g2 := hf 2 f2 rfl
      have g3 := hf 3 f3 rfl
      have g4 := hf 4 f4 rfl
      rw [o0, t0, cells_i] at g0
      rw [o1, t1, cells_v] at g1
      rw [o2, t2, cells_s] at g2
      rw [o3, t3, cells_s] at g3
      rw [o4, t4, cells_xl] at g4
      simp at g0 g1 g2 g3 g4
      obtain ⟨k, e0, rfl, w0⟩ := DataW.trod_int Try.underlying3 g0
      obtain ⟨v, e1⟩ := trod_val g1
      obtain ⟨s, e2, rfl, w2⟩ := DataW.trod_string Try.underlying9 g2
      obtain ⟨f, e3, rfl, w3⟩ := DataW.trod_string Try.underlying9 g3
      simp at e0 e1 e2 e3
      obtain ⟨e1, e1', e1''⟩ := e1
      subst e0 e1 e1' e1'' e2 e3
      rcases Deep.open_slice Try.underlying40 g4 with ⟨e4, _⟩ | ⟨a, len, cap, mm, nn, D, Pl, e4, _, hl4, hcm, hmm, rfl, hx⟩
      · simp at e4
        subst e4
        exact ⟨.mk k v s f none 0 0 (fun _ => .nil), rfl, ⟨by omega, by omega, fun i hi => by omega⟩, by simp only [X.size, sumN]; omega, w2, w3, fun i hi => by omega⟩
      · simp at e4
        subst e4
        have hlm : len ≤ mm := by rw [hmm]; split <;> omega
        have hB : sumN (fun i => Rows.uptoBulk (D i)) len + 1 ≤ Rows.uptoBulk (DataW.slice (H := H) ((List.range len).map D) ((List.range (mm - len)).map fun j => D (len + j))) := by
          simp only [Rows.uptoBulk, bulk_range]
          omega
        simp only at hb
        have each : ∀ i, i < len → ∃ q : X, w.cell? (a.add (i * 7)) = some (.int .i64 q.k) ∧ w.cell? (a.add (i * 7 + 1)) = some (.int .i64 q.v.k) ∧ w.cell? (a.add (i * 7 + 2)) = some (.int .i64 q.v.n) ∧ w.cell? (a.add (i * 7 + 3)) = some (.string q.v.s) ∧
            w.cell? (a.add (i * 7 + 4)) = some (.string q.s) ∧ w.cell? (a.add (i * 7 + 5)) = some (.string q.f) ∧ w.cell? (a.add (i * 7 + 6)) = some (.slice q.a q.n q.cap) ∧ IsX w q ∧ q.size ≤ Rows.uptoBulk (D i) ∧ XOk q := by
          intro i hi
          obtain ⟨cs', h1, h2⟩ := hx i (by omega)
          rw [cells_x] at h1
          obtain ⟨_, hlen, hcell⟩ := World.cells?_some h1
          have hle := sumN_le (f := fun i => Rows.uptoBulk (D i)) hi
          obtain ⟨q, rfl, hq, hqs, hqo⟩ := ih _ _ _ h2 (by simp only; omega)
          have d0 := hcell 0 (by omega)
          have d1 := hcell 1 (by omega)
          have d2 := hcell 2 (by omega)
          have d3 := hcell 3 (by omega)
          have d4 := hcell 4 (by omega)
          have d5 := hcell 5 (by omega)
          have d6 := hcell 6 (by omega)
          rw [Deep.add_add] at d0 d1 d2 d3 d4 d5 d6
          exact ⟨q, by simpa using d0, by simpa using d1, by simpa using d2, by simpa using d3, by simpa using d4, by simpa using d5, by simpa using d6, hq, hqs, hqo⟩
        have : Inhabited X := ⟨.nil⟩
        obtain ⟨q, hq⟩ := Deep.choose_lt each
        refine ⟨.mk k v s f (some a) len cap q, rfl, ⟨hl4, by unfold maxLen at hcm; omega, fun i hi => ?_⟩, ?_, w2, w3, fun i hi => (hq i hi).2.2.2.2.2.2.2.2.2⟩
        · obtain ⟨b, off, spot⟩ := a
          obtain ⟨d0, d1, d2, d3, d4, d5, d6, hi1, hi2, -⟩ := hq i hi
          have hspot : spot = none := by simpa [Addr.add] using World.cell?_spot (hq 0 (by omega)).1
          subst hspot
          rw [add_none] at d0 d1 d2 d3 d4 d5 d6
          refine ⟨b, off, rfl, ⟨?_, ?_, ?_, ?_, ?_, ?_, ?_⟩, hi1⟩
          · exact d0
          · rw [Nat.add_assoc]; exact d1
          · rw [Nat.add_assoc]; exact d2
          · rw [Nat.add_assoc]; exact d3
          · rw [Nat.add_assoc]; exact d4
          · rw [Nat.add_assoc]; exact d5
          · rw [Nat.add_assoc]; exact d6
        · have h1 := sumN_mono (f := fun i => (q i).size) (g := fun i => Rows.uptoBulk (D i)) (n := len) fun i hi => (hq i hi).2.2.2.2.2.2.2.2.1
          show 1 + sumN (fun i => (q i).size) len ≤ _
          omega
set_option maxRecDepth 100000 in
/-- A condition that came in. -/
theorem open_x {v : Value} {d : DataW H} {p : List MemPlace} {r : Reach} {b0 : Nat} (hv : Value.okWide Try.prog w r b0 69 v) (h : DataW.Trod enc Try.prog w base spare held 69 v d p) :
    ∃ q : X, v = q.val ∧ IsX w q ∧ q.size ≤ Rows.uptoBulk d ∧ XOk q := by
  obtain ⟨f0, f1, f2, f3, f4, hu, -⟩ := expr_under
  obtain ⟨cs, rfl, hc⟩ := okWide_struct hu hv
  obtain ⟨fuel, hf⟩ := h
  obtain ⟨q, e, hq, hs, ho⟩ := trod_x _ _ _ _ hf (Nat.le_refl _)
  simp only [Value.cells] at e
  refine ⟨q, ?_, hq, hs, ho⟩
  have : cs = #[.int .i64 q.k, .int .i64 q.v.k, .int .i64 q.v.n, .string q.v.s, .string q.s, .string q.f, .slice q.a q.n q.cap] := by
    apply Array.ext'
    simpa using e
  rw [this]
end
end Go.Proofs.Ytinnhaojmnmliaa
namespace Go.Proofs.Ytinnhaojmnmliaa
open Go.RowKit Go.ChangeShapes Go.WideShapes

section
variable {H : Type} {enc : TypeId × Value → H} {w : World} {base : Nat} {spare : Nat → Bool} {held : Bool}
set_option maxRecDepth 100000 in
/-- A text that came in. -/
theorem open_str {v : Value} {d : DataW H} {p : List MemPlace} {r : Reach} {b0 : Nat} (hv : Value.okWide Try.prog w r b0 9 v) (h : DataW.Trod enc Try.prog w base spare held 9 v d p) :
    ∃ s : ByteArray, v = .string s ∧ s.size ≤ maxLen := by
  obtain ⟨s, rfl⟩ := okWide_string Try.underlying9 hv
  obtain ⟨fuel, hf⟩ := h
  obtain ⟨s', e, _, hw⟩ := DataW.trod_string Try.underlying9 hf
  have e' : [Value.string s] = [Value.string s'] := e
  injection e' with e' _
  injection e' with e'
  exact ⟨s, rfl, e' ▸ hw⟩
set_option maxRecDepth 100000 in
/-- Texts that came in. -/
theorem open_strs {a : Option Addr} {len cap : Nat} {d : DataW H} {p : List MemPlace} (h : DataW.Trod enc Try.prog w base spare held 28 (.slice a len cap) d p) :
    ∃ S : Nat → ByteArray, Txs w a len S ∧ len ≤ cap ∧ cap ≤ 9223372036854775807 ∧ (∀ j, j < len → (S j).size ≤ maxLen) ∧ len ≤ Rows.uptoBulk d := by
  obtain ⟨fuel, hf⟩ := h
  rcases Deep.open_slice Try.underlying28 hf with ⟨e4, _⟩ | ⟨a', len', cap', mm, nn, D, Pl, e4, _, hl4, hcm, hmm, hdp, hx⟩
  · have e' : [Value.slice a len cap] = [.slice none 0 0] := e4
    injection e' with e' _
    injection e' with e1 e2 e3
    subst e1 e2 e3
    exact ⟨fun _ => ⟨#[]⟩, fun h => by omega, by omega, by omega, fun j hj => by omega, Nat.zero_le _⟩
  · cases hdp
    have e' : [Value.slice a len cap] = [.slice (some a') len' cap'] := e4
    injection e' with e' _
    injection e' with e1 e2 e3
    subst e1 e2 e3
    have hlm : len ≤ mm := by rw [hmm]; split <;> omega
    have each : ∀ i, i < len → ∃ s : ByteArray, w.cell? (a'.add i) = some (.string s) ∧ s.size ≤ maxLen := by
      intro i hi
      obtain ⟨cs', h1, h2⟩ := hx i (by omega)
      rw [cells_s] at h1
      obtain ⟨_, hlen, hcell⟩ := World.cells?_some h1
      obtain ⟨s, e, _, hw⟩ := DataW.trod_string Try.underlying9 h2
      subst e
      have d0 := hcell 0 (by omega)
      rw [Deep.add_add] at d0
      exact ⟨s, by simpa using d0, hw⟩
    have : Inhabited ByteArray := ⟨⟨#[]⟩⟩
    obtain ⟨S, hS⟩ := Deep.choose_lt each
    refine ⟨S, fun h0 => ?_, hl4, by unfold maxLen at hcm; omega, fun j hj => (hS j hj).2, ?_⟩
    · obtain ⟨b, off, spot⟩ := a'
      have hspot : spot = none := by simpa [Addr.add] using World.cell?_spot (hS 0 h0).1
      subst hspot
      exact ⟨b, off, rfl, fun j hj => by have := (hS j hj).1; rw [add_none] at this; exact this⟩
    · have hone : ∀ x : DataW H, 1 ≤ Rows.uptoBulk x := fun x => by rw [Rows.uptoBulk.eq_def]; split <;> omega
      have hsum : ∀ m, m ≤ sumN (fun i => Rows.uptoBulk (D i)) m := by
        intro m
        induction m with
        | zero => exact Nat.le_refl _
        | succ m ih => have := hone (D m); simp only [sumN]; omega
      have := hsum len
      simp only [Rows.uptoBulk, bulk_range]
      omega
end
end Go.Proofs.Ytinnhaojmnmliaa
namespace Go.Proofs.Ytinnhaojmnmliaa
open Go.RowKit Go.ChangeShapes Go.WideShapes

section
variable {H : Type} {enc : TypeId × Value → H} {w : World} {base : Nat} {spare : Nat → Bool} {held : Bool}
/-- Conditions that came in: as the parts of one. -/
abbrev X.all (a : Option Addr) (n cap : Nat) (c : Nat → X) : X := .mk 0 val0 ⟨#[]⟩ ⟨#[]⟩ a n cap c
set_option maxRecDepth 100000 in
theorem open_xs {a : Option Addr} {len cap : Nat} {d : DataW H} {p : List MemPlace} (h : DataW.Trod enc Try.prog w base spare held 40 (.slice a len cap) d p) :
    ∃ c : Nat → X, IsX w (X.all a len cap c) ∧ (X.all a len cap c).size ≤ Rows.uptoBulk d + 1 ∧ XOk (X.all a len cap c) := by
  obtain ⟨fuel, hf⟩ := h
  rcases Deep.open_slice Try.underlying40 hf with ⟨e4, _⟩ | ⟨a', len', cap', mm, nn, D, Pl, e4, _, hl4, hcm, hmm, hdp, hx⟩
  · have e' : [Value.slice a len cap] = [.slice none 0 0] := e4
    injection e' with e' _
    injection e' with e1 e2 e3
    subst e1 e2 e3
    exact ⟨fun _ => .nil, ⟨by omega, by omega, fun i hi => by omega⟩, by simp [X.size, sumN], Nat.zero_le _, Nat.zero_le _, fun i hi => by omega⟩
  · cases hdp
    have e' : [Value.slice a len cap] = [.slice (some a') len' cap'] := e4
    injection e' with e' _
    injection e' with e1 e2 e3
    subst e1 e2 e3
    have hlm : len ≤ mm := by rw [hmm]; split <;> omega
    have each : ∀ i, i < len → ∃ q : X, w.cell? (a'.add (i * 7)) = some (.int .i64 q.k) ∧ w.cell? (a'.add (i * 7 + 1)) = some (.int .i64 q.v.k) ∧ w.cell? (a'.add (i * 7 + 2)) = some (.int .i64 q.v.n) ∧ w.cell? (a'.add (i * 7 + 3)) = some (.string q.v.s) ∧
        w.cell? (a'.add (i * 7 + 4)) = some (.string q.s) ∧ w.cell? (a'.add (i * 7 + 5)) = some (.string q.f) ∧ w.cell? (a'.add (i * 7 + 6)) = some (.slice q.a q.n q.cap) ∧ IsX w q ∧ q.size ≤ Rows.uptoBulk (D i) ∧ XOk q := by
      intro i hi
      obtain ⟨cs', h1, h2⟩ := hx i (by omega)
      rw [cells_x] at h1
      obtain ⟨_, hlen, hcell⟩ := World.cells?_some h1
      obtain ⟨q, rfl, hq, hqs, hqo⟩ := trod_x _ _ _ _ h2 (Nat.le_refl _)
      have d0 := hcell 0 (by omega)
      have d1 := hcell 1 (by omega)
      have d2 := hcell 2 (by omega)
      have d3 := hcell 3 (by omega)
      have d4 := hcell 4 (by omega)
      have d5 := hcell 5 (by omega)
      have d6 := hcell 6 (by omega)
      rw [Deep.add_add] at d0 d1 d2 d3 d4 d5 d6
      exact ⟨q, by simpa using d0, by simpa using d1, by simpa using d2, by simpa using d3, by simpa using d4, by simpa using d5, by simpa using d6, hq, hqs, hqo⟩
    have : Inhabited X := ⟨.nil⟩
    obtain ⟨q, hq⟩ := Deep.choose_lt each
    refine ⟨q, ⟨hl4, by unfold maxLen at hcm; omega, fun i hi => ?_⟩, ?_, Nat.zero_le _, Nat.zero_le _, fun i hi => (hq i hi).2.2.2.2.2.2.2.2.2⟩
    · obtain ⟨b, off, spot⟩ := a'
      obtain ⟨d0, d1, d2, d3, d4, d5, d6, hi1, hi2, -⟩ := hq i hi
      have hspot : spot = none := by simpa [Addr.add] using World.cell?_spot (hq 0 (by omega)).1
      subst hspot
      rw [add_none] at d0 d1 d2 d3 d4 d5 d6
      refine ⟨b, off, rfl, ⟨?_, ?_, ?_, ?_, ?_, ?_, ?_⟩, hi1⟩
      · exact d0
      · rw [Nat.add_assoc]; exact d1
      · rw [Nat.add_assoc]; exact d2
      · rw [Nat.add_assoc]; exact d3
      · rw [Nat.add_assoc]; exact d4
      · rw [Nat.add_assoc]; exact d5
      · rw [Nat.add_assoc]; exact d6
    · have h1 := sumN_mono (f := fun i => (q i).size) (g := fun i => Rows.uptoBulk (D i)) (n := len) fun i hi => (hq i hi).2.2.2.2.2.2.2.2.1
      show 1 + sumN (fun i => (q i).size) len ≤ _
      simp only [Rows.uptoBulk, bulk_range]
      omega
end
end Go.Proofs.Ytinnhaojmnmliaa
