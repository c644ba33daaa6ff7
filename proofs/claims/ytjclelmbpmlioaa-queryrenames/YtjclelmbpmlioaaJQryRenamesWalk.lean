/-
  QueryRenames' walk: a query with other names.
  Queries that came in.
  Queries that came in, of any size within the form's own reach.
-/
import Derived.Test.YtjclelmbpmlioaaJBrief
import Derived.Test.YtjclelmbpmlioaaJQryRefRename
import Derived.Test.YtjclelmbpmlioaaJQryBase
import Derived.Test.YtjclelmbpmlioaaJPatCopied
import Derived.Test.YtjclelmbpmlioaaJExprRenMath
import Derived.Test.YtjclelmbpmlioaaJQryRename
import Derived.Test.YtjclelmbpmlioaaJPatArgsW
import Derived.Deep.DeepCutAuto
namespace Go.Proofs.Ytjclelmbpmlioaa
open Go.RowKit

/-- Two that were both renamed alike are the same. -/
theorem RnQ.same {g : ByteArray → ByteArray} {q r t : Qy} (h : RnQ g q r) (k : RnQ g q t) : sameQ r t = true := by
  obtain ⟨-, -, -, -, n1, x1⟩ := (ordX_zero _ _).1 h.x
  obtain ⟨-, -, -, -, n2, x2⟩ := (ordX_zero _ _).1 k.x
  have hn : r.n = t.n := n1.trans n2.symm
  refine (sameQ_iff r t).2 ⟨h.p.trans k.p.symm, h.key.trans k.key.symm, h.mode.trans k.mode.symm, h.win.trans k.win.symm, hn, h.m.trans k.m.symm, fun i hi => ?_, fun i hi => ?_⟩
  · exact ordX_ztrans (x1 i hi) (ordX_zsymm (x2 i (show i < t.n from hn ▸ hi)))
  · have hi' : i < q.m := h.m ▸ hi
    rw [h.it i hi', k.it i hi']
theorem both_sameQ {d : World} {y z G : Qy} {g : ByteArray → ByteArray} (hy : IsQ d y) (hz : IsQ d z) (h1 : RnQ g G y) (h2 : RnQ g G z) : Calls Try.prog 18 #[y.val, z.val] d fun e w' => e = .returned (.bool true) ∧ Below d.heap.size d w' := by
  have := refSameQ_any y z d hy hz
  rw [h1.same h2] at this
  exact this
theorem boxQ_one (q : Qy) (w : World) : ∃ A, w.alloc (.cells q.cells 41) = A ∧ Below w.heap.size w A ∧ A.heap.size = w.heap.size + 1 ∧ QB A w.heap.size q := ⟨_, rfl, (Below.refl _ _).alloc (Nat.le_refl _) _, by simp, QB.new w q⟩
set_option maxRecDepth 100000 in
set_option maxHeartbeats 8000000 in
theorem queryRenames_walk (x : Qy) (a1 a2 : Option Addr) (m1 m2 c1 c2 : Nat) (S T : Nat → ByteArray) (w : World) (hX : IsQ w x) (hok : QOk x) (hsm : WdQ x) (hS : Txs w a1 m1 S) (hT : Txs w a2 m2 T) (hm1 : m1 ≤ 9223372036854775807) (hm2 : m2 ≤ 9223372036854775807) (hc1 : m1 ≤ c1) (hcm : c1 ≤ 9223372036854775807) (zS : ∀ j, j < m1 → (S j).size ≤ maxLen) :
    Calls Try.prog 5 #[x.val, .slice a1 m1 c1, .slice a2 m2 c2] w fun e w' => e = .returned (.bool true) ∧ Below w.heap.size w w' := by
  obtain ⟨A, hA, hB, hs, hn⟩ := boxQ_one x w
  obtain ⟨⟨a0, a1', a2', a3, a4', a5⟩, a6, a7, a8, a9, a10⟩ := hn.at0
  have HB : Hid (Below w.heap.size w A) := hB
  have NX : Hid (QB A w.heap.size x) := hn
  have L1 : Hid (Calls Try.prog 16 #[x.val] A (SomeB A)) := lightQ_wide x A (hX.later hB)
  have W1 : Hid (∀ d, Calls Try.prog 17 #[] d fun e w' => e = .returned (.bool true) ∧ Below d.heap.size d w') := fun d => awake13_any d
  obtain ⟨g, hg⟩ : ∃ g, g = nameX S T (min m1 m2) := ⟨_, rfl⟩
  have R1' : Hid (∀ d, Below A.heap.size A d → Calls Try.prog 19 #[x.val, .slice a1 m1 c1, .slice a2 m2 c2] d fun e w' => ∃ y : Qy, e = .returned y.val ∧ Hid (IsQ w' y ∧ RnQ g x y) ∧ Below d.heap.size d w') := fun d h => by
    have hd := hB.trans (h.mono (by omega))
    refine (renameQ_wide x a1 a2 m1 m2 c1 c2 S T d (hX.later hd) hok hsm (hS.later hd) (hT.later hd) hm1 hm2 hc1 hcm zS).mono ?_
    rintro e w' ⟨y, rfl, q1, q2, q3⟩
    exact ⟨y, rfl, ⟨q1, by rw [hg]; exact q2⟩, q3⟩
  have R2' : Hid (∀ d, Below A.heap.size A d → Calls Try.prog 20 #[x.val, .slice a1 m1 c1, .slice a2 m2 c2] d fun e w' => ∃ y : Qy, e = .returned y.val ∧ Hid (IsQ w' y ∧ RnQ g x y) ∧ Below d.heap.size d w') := fun d h => by
    have hd := hB.trans (h.mono (by omega))
    refine (refRenameQ_wide x a1 a2 m1 m2 c1 c2 S T d (hX.later hd) hsm (hS.later hd) (hT.later hd) hm1 hm2).mono ?_
    rintro e w' ⟨y, rfl, q1, q2, q3⟩
    exact ⟨y, rfl, ⟨q1, by rw [hg]; exact q2⟩, q3⟩
  clear hB hn hX hok hsm hS hT hm1 hm2 hc1 hcm zS hg
  go_enter Try.func5, Try.ntmps5
  go_upto_region 1 with fail
  clear hA
  go_upto_region 3 with (first
    | (go_at_call 16; refine L1.out.mono ?_; clear L1; rintro e w1 ⟨b, rfl, hB1⟩; cases b)
    | (go_at_call 17; refine (W1.out _).mono ?_; clear W1; rintro e w2 ⟨rfl, hB2⟩))
  · go_ret
    exact ⟨rfl, HB.out.trans ((hB1.trans (hB2.mono hB1.size)).mono (by omega))⟩
  generalize w1 = W at *
  have HW : Hid (Below A.heap.size A W) := hB1
  have PX : Hid (QB W w.heap.size x) := NX.out.later hB1
  have R1 : Hid (∀ d, Below W.heap.size W d → Calls Try.prog 19 #[x.val, .slice a1 m1 c1, .slice a2 m2 c2] d fun e w' => ∃ y : Qy, e = .returned y.val ∧ Hid (IsQ w' y ∧ RnQ g x y) ∧ Below d.heap.size d w') := fun d h => R1'.out d (hB1.trans (h.mono hB1.size))
  have R2 : Hid (∀ d, Below W.heap.size W d → Calls Try.prog 20 #[x.val, .slice a1 m1 c1, .slice a2 m2 c2] d fun e w' => ∃ y : Qy, e = .returned y.val ∧ Hid (IsQ w' y ∧ RnQ g x y) ∧ Below d.heap.size d w') := fun d h => R2'.out d (hB1.trans (h.mono hB1.size))
  clear R1' R2' hB1 NX a0 a1' a2' a3 a4' a5 a6 a7 a8 a9 a10
  refine wp_region_noPanic ?_
  refine wp_region_held_drew (S := fun w' => Below W.heap.size W w') (by kernel_rfl) ((Below.refl _ _).drew) (fun hHeld => ?_)
  have hT : Below W.heap.size W W.drew := hHeld
  obtain ⟨d, hdw⟩ : ∃ d, d = W.drew := ⟨_, rfl⟩
  rw [← hdw] at hHeld hT ⊢
  clear hdw
  refine wpAnyH_take (i := 0) (oi := ⟨some 11, .load 41 (.tmp 3), 41, _, _, _⟩) (v := ?v0) rfl (by kernel_rfl) (by kernel_rfl) (by kernel_rfl) (fun _ _ _ h => h) (Or.inl ⟨by rfl, ?hy0⟩) hHeld ?rest0
  case hy0 => intro w9 hSw; obtain ⟨⟨d0, d1, d2, d3, d4, d5⟩, d6, d7, d8, d9, d10⟩ := (PX.out.later hSw).at0; go_simp; (try with_reducible rfl)
  try simp only [Act.put, s_put, s_0, s_1]
  refine wpAnyH_take (i := 1) (oi := ⟨some 12, .move (.tmp 1), 25, _, _, _⟩) (v := ?v1) rfl (by kernel_rfl) (by kernel_rfl) (by kernel_rfl) (fun _ _ _ h => h) (Or.inl ⟨by rfl, ?hy1⟩) hHeld ?rest1
  case hy1 => intro w9 hSw; go_simp; (try with_reducible rfl)
  try simp only [Act.put, s_put, s_0, s_1]
  refine wpAnyH_take (i := 2) (oi := ⟨some 13, .move (.tmp 2), 25, _, _, _⟩) (v := ?v2) rfl (by kernel_rfl) (by kernel_rfl) (by kernel_rfl) (fun _ _ _ h => h) (Or.inl ⟨by rfl, ?hy2⟩) hHeld ?rest2
  case hy2 => intro w9 hSw; go_simp; (try with_reducible rfl)
  try simp only [Act.put, s_put, s_0, s_1]
  refine wpAnyH_take (i := 4) (oi := ⟨some 15, .load 41 (.tmp 3), 41, _, _, _⟩) (v := ?v4) rfl (by kernel_rfl) (by kernel_rfl) (by kernel_rfl) (fun _ _ _ h => h) (Or.inl ⟨by rfl, ?hy4⟩) hHeld ?rest4
  case hy4 => intro w9 hSw; obtain ⟨⟨d0, d1, d2, d3, d4, d5⟩, d6, d7, d8, d9, d10⟩ := (PX.out.later hSw).at0; go_simp; (try with_reducible rfl)
  try simp only [Act.put, s_put, s_0, s_1]
  refine wpAnyH_take (i := 5) (oi := ⟨some 16, .move (.tmp 1), 25, _, _, _⟩) (v := ?v5) rfl (by kernel_rfl) (by kernel_rfl) (by kernel_rfl) (fun _ _ _ h => h) (Or.inl ⟨by rfl, ?hy5⟩) hHeld ?rest5
  case hy5 => intro w9 hSw; go_simp; (try with_reducible rfl)
  try simp only [Act.put, s_put, s_0, s_1]
  refine wpAnyH_take (i := 6) (oi := ⟨some 17, .move (.tmp 2), 25, _, _, _⟩) (v := ?v6) rfl (by kernel_rfl) (by kernel_rfl) (by kernel_rfl) (fun _ _ _ h => h) (Or.inl ⟨by rfl, ?hy6⟩) hHeld ?rest6
  case hy6 => intro w9 hSw; go_simp; (try with_reducible rfl)
  try simp only [Act.put, s_put, s_0, s_1]
  refine wpAnyH_ready (rs := [3]) (by kernel_rfl) (by simp) ?_
  refine AllReadyH.cons (o := ⟨some 14, .call { callee := .value (.func 19), args := #[.tmp 11, .tmp 12, .tmp 13], argTypes := #[41, 25, 25] }, 41, _, _, _⟩) rfl (fun K hK => ?_) AllReadyH.nil
  go_simp
  refine (R1.out _ hT).mono ?_
  rintro e x3 ⟨y3, rfl, h3, hN3⟩
  go_wp2_with fail
  have hT3 : Below W.heap.size W x3 := hT.trans (hN3.mono hT.size)
  refine hK.out _ _ (hHeld.trans (hN3.mono hHeld.size)) (fun _ => held_up (S' := fun w' => Below x3.heap.size x3 w') (fun w' h' => (hHeld.trans (hN3.mono hHeld.size)).trans (h'.mono (Nat.le_trans hHeld.size hN3.size))) _ _ _ _ ?_)
  clear hK K hHeld hT
  have hT : Below W.heap.size W x3 := hT3
  have hHeld : Below x3.heap.size x3 x3 := Below.refl _ _
  clear hT3 hN3
  try simp only [Act.put, s_put, s_0, s_1]
  refine wpAnyH_ready (rs := [7]) (by kernel_rfl) (by simp) ?_
  refine AllReadyH.cons (o := ⟨some 18, .call { callee := .value (.func 20), args := #[.tmp 15, .tmp 16, .tmp 17], argTypes := #[41, 25, 25] }, 41, _, _, _⟩) rfl (fun K hK => ?_) AllReadyH.nil
  go_simp
  refine (R2.out _ hT).mono ?_
  rintro e x7 ⟨y7, rfl, h7, hN7⟩
  have C8 : Hid (Calls Try.prog 18 #[y3.val, y7.val] x7 fun e w2 => e = .returned (.bool true) ∧ Below x7.heap.size x7 w2) := both_sameQ (h3.out.1.later hN7) h7.out.1 h3.out.2 h7.out.2
  go_wp2_with fail
  have hT7 : Below W.heap.size W x7 := hT.trans (hN7.mono hT.size)
  refine hK.out _ _ (hHeld.trans (hN7.mono hHeld.size)) (fun _ => held_up (S' := fun w' => Below x7.heap.size x7 w') (fun w' h' => (hHeld.trans (hN7.mono hHeld.size)).trans (h'.mono (Nat.le_trans hHeld.size hN7.size))) _ _ _ _ ?_)
  clear hK K hHeld hT
  have hT : Below W.heap.size W x7 := hT7
  have hHeld : Below x7.heap.size x7 x7 := Below.refl _ _
  clear hT7 hN7
  try simp only [Act.put, s_put, s_0, s_1]
  refine wpAnyH_ready (rs := [8]) (by kernel_rfl) (by simp) ?_
  refine AllReadyH.cons (o := ⟨some 19, .call { callee := .value (.func 18), args := #[.tmp 14, .tmp 18], argTypes := #[41, 41] }, 4, _, _, _⟩) rfl (fun K hK => ?_) AllReadyH.nil
  go_simp
  refine (C8.out).mono ?_
  rintro e x8 ⟨rfl, hN8⟩
  go_wp2_with fail
  have hT8 : Below W.heap.size W x8 := hT.trans (hN8.mono hT.size)
  refine hK.out _ _ (hHeld.trans (hN8.mono hHeld.size)) (fun _ => held_up (S' := fun w' => Below x8.heap.size x8 w') (fun w' h' => (hHeld.trans (hN8.mono hHeld.size)).trans (h'.mono (Nat.le_trans hHeld.size hN8.size))) _ _ _ _ ?_)
  clear hK K hHeld hT
  have hT : Below W.heap.size W x8 := hT8
  have hHeld : Below x8.heap.size x8 x8 := Below.refl _ _
  clear hT8 hN8
  try simp only [Act.put, s_put, s_0, s_1]
  refine wpAnyH_take (i := 9) (oi := ⟨some 20, .move (.tmp 19), 4, _, _, _⟩) (v := ?v9) rfl (by kernel_rfl) (by kernel_rfl) (by kernel_rfl) (fun _ _ _ h => h) (Or.inl ⟨by rfl, ?hy9⟩) hHeld ?rest9
  case hy9 => intro w9 hSw; go_simp; (try with_reducible rfl)
  try simp only [Act.put, s_put, s_0, s_1]
  refine wpAnyH_ready (rs := [10]) (by kernel_rfl) (by simp) ?_
  refine AllReadyH.cons (o := ⟨some 21, .call { callee := .value (.func 17), args := #[], argTypes := #[] }, 4, _, _, _⟩) rfl (fun K hK => ?_) AllReadyH.nil
  go_simp
  refine (W1.out _).mono ?_
  rintro e x10 ⟨rfl, hN10⟩
  go_wp2_with fail
  have hT10 : Below W.heap.size W x10 := hT.trans (hN10.mono hT.size)
  refine hK.out _ _ (hHeld.trans (hN10.mono hHeld.size)) (fun _ => held_up (S' := fun w' => Below x10.heap.size x10 w') (fun w' h' => (hHeld.trans (hN10.mono hHeld.size)).trans (h'.mono (Nat.le_trans hHeld.size hN10.size))) _ _ _ _ ?_)
  clear hK K hHeld hT
  have hT : Below W.heap.size W x10 := hT10
  have hHeld : Below x10.heap.size x10 x10 := Below.refl _ _
  clear hT10 hN10
  try simp only [Act.put, s_put, s_0, s_1]
  refine wpAnyH_take (i := 11) (oi := ⟨some 22, .pick (.tmp 20) (.tmp 21) (.const (Value.bool false)), 4, _, _, _⟩) (v := ?v11) rfl (by kernel_rfl) (by kernel_rfl) (by kernel_rfl) (fun _ _ _ h => h) (Or.inl ⟨by rfl, ?hy11⟩) hHeld ?rest11
  case hy11 => intro w9 hSw; go_simp; (try with_reducible rfl)
  try simp only [Act.put, s_put, s_0, s_1]
  refine wpAnyH_take (i := 12) (oi := ⟨some 6, .assign (.tmp 22), 4, _, _, _⟩) (v := ?v12) rfl (by kernel_rfl) (by kernel_rfl) (by kernel_rfl) (fun _ _ _ h => h) (Or.inl ⟨by rfl, ?hy12⟩) hHeld ?rest12
  case hy12 => intro w9 hSw; go_simp; (try with_reducible rfl)
  try simp only [Act.put, s_put, s_0, s_1]
  refine wpAnyH_done (by kernel_rfl) ?_ _
  refine NoPanic.normal ?_
  go_wp2
  go_ret
  exact ⟨rfl, HB.out.trans ((HW.out.trans (hT.mono HW.out.size)).mono (by omega))⟩
end Go.Proofs.Ytjclelmbpmlioaa
namespace Go.Proofs.Ytjclelmbpmlioaa
open Go.RowKit Go.ChangeShapes Go.WideShapes

section
variable {H : Type} {enc : TypeId × Value → H} {w : World} {base : Nat} {spare : Nat → Bool} {held : Bool}
theorem item_under : ∃ f0 f1 f2 f3 : Field, Try.prog.underlying 72 = some (.struct #[f0, f1, f2, f3]) ∧ f0.offset = 0 ∧ f1.offset = 1 ∧ f2.offset = 2 ∧ f3.offset = 3 ∧ f0.type = 9 ∧ f1.type = 3 ∧ f2.type = 9 ∧ f3.type = 9 := ⟨_, _, _, _, Try.underlying72, rfl, rfl, rfl, rfl, rfl, rfl, rfl, rfl⟩
theorem cells_item : Try.prog.cellsOf 72 = 4 := by kernel_rfl
set_option maxRecDepth 100000 in
theorem trod_item {fuel : Nat} {cs : List Value} {x : DataW H × List MemPlace} (h : DataW.trod enc Try.prog w base spare held fuel 72 cs = some x) :
    ∃ q : It, cs = [.string q.nm, .int .i64 q.k, .string q.s, .string q.f] ∧ q.nm.size ≤ maxLen ∧ q.s.size ≤ maxLen ∧ q.f.size ≤ maxLen := by
  obtain ⟨f0, f1, f2, f3, hu, o0, o1, o2, o3, t0, t1, t2, t3⟩ := item_under
  obtain ⟨xs, n, rfl, rfl, hl, hlen, hf⟩ := DataW.trod_struct hu h
  rw [cells_item] at hl
  match xs, hlen, cs, hl with
  | [y0, y1, y2, y3], _, [c0, c1, c2, c3], _ =>
    have g0 := hf 0 f0 rfl
    have g1 := hf 1 f1 rfl
    have g2 := hf 2 f2 rfl
    have g3 := hf 3 f3 rfl
    rw [o0, t0, cells_s] at g0
    rw [o1, t1, cells_i] at g1
    rw [o2, t2, cells_s] at g2
    rw [o3, t3, cells_s] at g3
    simp at g0 g1 g2 g3
    obtain ⟨nm, e0, -, w0⟩ := DataW.trod_string Try.underlying9 g0
    obtain ⟨k, e1, -, -⟩ := DataW.trod_int Try.underlying3 g1
    obtain ⟨s, e2, -, w2⟩ := DataW.trod_string Try.underlying9 g2
    obtain ⟨f, e3, -, w3⟩ := DataW.trod_string Try.underlying9 g3
    simp at e0 e1 e2 e3
    subst e0 e1 e2 e3
    exact ⟨⟨nm, k, s, f⟩, rfl, w0, w2, w3⟩
theorem query_under : ∃ f0 f1 f2 f3 f4 f5 : Field, Try.prog.underlying 41 = some (.struct #[f0, f1, f2, f3, f4, f5]) ∧ f0.offset = 0 ∧ f1.offset = 6 ∧ f2.offset = 7 ∧ f3.offset = 8 ∧ f4.offset = 9 ∧ f5.offset = 10 ∧ f0.type = 24 ∧ f1.type = 38 ∧ f2.type = 9 ∧ f3.type = 3 ∧ f4.type = 2 ∧ f5.type = 39 := ⟨_, _, _, _, _, _, Try.underlying41, rfl, rfl, rfl, rfl, rfl, rfl, rfl, rfl, rfl, rfl, rfl, rfl⟩
theorem cells_q : Try.prog.cellsOf 41 = 11 := by kernel_rfl
theorem cells_il : Try.prog.cellsOf 39 = 1 := by kernel_rfl
theorem cells_64 : Try.prog.cellsOf 2 = 1 := by kernel_rfl
end
end Go.Proofs.Ytjclelmbpmlioaa
namespace Go.Proofs.Ytjclelmbpmlioaa
open Go.RowKit Go.ChangeShapes Go.WideShapes

section
variable {H : Type} {enc : TypeId × Value → H} {w : World} {base : Nat} {spare : Nat → Bool} {held : Bool}
theorem bytes_it : Try.prog.bytesOf 72 = 56 := by kernel_rfl
set_option maxRecDepth 100000 in
theorem open_itsw {fuel : Nat} {cs : List Value} {d : DataW H} {p : List MemPlace} (hf : DataW.trod enc Try.prog w base spare held fuel 39 cs = some (d, p)) (hw5 : ∀ n ∈ d.weights Try.prog 39, n ≤ 140737488351232) :
    ∃ (a : Option Addr) (len cap : Nat) (I : Nat → It), cs = [.slice a len cap] ∧ Its w a len I ∧ len ≤ cap ∧ cap ≤ 9223372036854775807 ∧ (∀ j, j < len → (I j).nm.size ≤ maxLen ∧ (I j).s.size ≤ maxLen ∧ (I j).f.size ≤ maxLen) ∧ len ≤ 2513169434843 := by
  rcases Deep.open_slice Try.underlying39 hf with ⟨e4, _⟩ | ⟨a', len, cap, mm, nn, D, Pl, e4, _, hl4, hcm, hmm, hdp, hx⟩
  · exact ⟨none, 0, 0, fun _ => ⟨⟨#[]⟩, 0, ⟨#[]⟩, ⟨#[]⟩⟩, e4, fun i h => by omega, by omega, by omega, fun j hj => by omega, Nat.zero_le _⟩
  · cases hdp
    have hlm : len ≤ mm := by rw [hmm]; split <;> omega
    have each : ∀ i, i < len → ∃ q : It, w.cell? (a'.add (i * 4)) = some (.string q.nm) ∧ w.cell? (a'.add (i * 4 + 1)) = some (.int .i64 q.k) ∧ w.cell? (a'.add (i * 4 + 2)) = some (.string q.s) ∧ w.cell? (a'.add (i * 4 + 3)) = some (.string q.f) ∧ q.nm.size ≤ maxLen ∧ q.s.size ≤ maxLen ∧ q.f.size ≤ maxLen := by
      intro i hi
      obtain ⟨cs', h1, h2⟩ := hx i (by omega)
      rw [cells_item] at h1
      obtain ⟨_, hlen, hcell⟩ := World.cells?_some h1
      obtain ⟨q, rfl, w1, w2, w3⟩ := trod_item h2
      have d0 := hcell 0 (by omega)
      have d1 := hcell 1 (by omega)
      have d2 := hcell 2 (by omega)
      have d3 := hcell 3 (by omega)
      rw [Deep.add_add] at d0 d1 d2 d3
      exact ⟨q, by simpa using d0, by simpa using d1, by simpa using d2, by simpa using d3, w1, w2, w3⟩
    have : Inhabited It := ⟨⟨⟨#[]⟩, 0, ⟨#[]⟩, ⟨#[]⟩⟩⟩
    obtain ⟨q, hq⟩ := Deep.choose_lt each
    refine ⟨some a', len, cap, q, e4, fun i hi => ?_, hl4, by unfold maxLen at hcm; omega, fun j hj => (hq j hj).2.2.2.2, ?_⟩
    · obtain ⟨b, off, spot⟩ := a'
      obtain ⟨d0, d1, d2, d3, -⟩ := hq i hi
      have hspot : spot = none := by simpa [Addr.add] using World.cell?_spot (hq 0 (by omega)).1
      subst hspot
      rw [add_none] at d0 d1 d2 d3
      refine ⟨b, off, rfl, ?_, ?_, ?_, ?_⟩
      · exact d0
      · rw [Nat.add_assoc]; exact d1
      · rw [Nat.add_assoc]; exact d2
      · rw [Nat.add_assoc]; exact d3
    · have := hw5 _ (by simp only [DataW.weights, Try.underlying39]; exact List.mem_cons_self ..)
      rw [bytes_it] at this
      simp at this
      omega
set_option maxRecDepth 100000 in
theorem trod_qw {fuel : Nat} {cs : List Value} {x : DataW H × List MemPlace} (h : DataW.trod enc Try.prog w base spare held fuel 41 cs = some x) (hwt : ∀ n ∈ x.1.weights Try.prog 41, n ≤ 140737488351232) :
    ∃ q : Qy, cs = q.cells.toList ∧ IsQ w q ∧ WdQ q ∧ QOk q := by
  obtain ⟨f0, f1, f2, f3, f4, f5, hu, o0, o1, o2, o3, o4, o5, t0, t1, t2, t3, t4, t5⟩ := query_under
  obtain ⟨xs, n, rfl, rfl, hl, hlen, hf⟩ := DataW.trod_struct hu h
  rw [cells_q] at hl
  match xs, hlen, cs, hl with
  | [y0, y1, y2, y3, y4, y5], _, [c0, c1, c2, c3, c4, c5, c6, c7, c8, c9, c10], _ =>
    have hw : ∀ n, (n ∈ y0.1.weights Try.prog f0.type ∨ n ∈ y1.1.weights Try.prog f1.type ∨ n ∈ y5.1.weights Try.prog f5.type) → n ≤ 140737488351232 := fun n hn => hwt n (by
      simp only [DataW.weights, hu, List.map_cons, List.map_nil, DataW.weightsEach, List.mem_append]
      rcases hn with h | h | h
      · exact .inl h
      · exact .inr (.inl h)
      · exact .inr (.inr (.inr (.inr (.inr (.inl h))))))
    rw [t0, t1, t5] at hw
    have g0 := hf 0 f0 rfl
    have g1 := hf 1 f1 rfl
    have g2 := hf 2 f2 rfl
    have g3 := hf 3 f3 rfl
    have g4 := hf 4 f4 rfl
    have g5 := hf 5 f5 rfl
    rw [o0, t0, cells_p] at g0
    rw [o1, t1, cells_xl] at g1
    rw [o2, t2, cells_s] at g2
    rw [o3, t3, cells_i] at g3
    rw [o4, t4, cells_64] at g4
    rw [o5, t5, cells_il] at g5
    simp at g0 g1 g2 g3 g4 g5
    obtain ⟨pt, e0, hP, hps, hpo⟩ := trod_pw _ _ _ _ g0 (fun n h => hw n (.inl h)) (Nat.le_refl _)
    obtain ⟨ky, e2, -, w2⟩ := DataW.trod_string Try.underlying9 g2
    obtain ⟨md, e3, -, -⟩ := DataW.trod_int Try.underlying3 g3
    obtain ⟨wi, e4, -, -⟩ := DataW.trod_int Try.underlying2 g4
    obtain ⟨ia, im, icap, I, e5, hI, hi1, hi2, hi3, hi4⟩ := open_itsw g5 (fun n h => hw n (.inr (.inr h)))
    have hxs : ∃ (a : Option Addr) (len cap : Nat), c6 = .slice a len cap := by
      rcases Deep.open_slice Try.underlying38 g1 with ⟨e, _⟩ | ⟨a', len', cap', _, _, _, _, e, _⟩
      · simp at e; exact ⟨_, _, _, e⟩
      · simp at e; exact ⟨_, _, _, e⟩
    obtain ⟨a, len, cap, rfl⟩ := hxs
    obtain ⟨c, hX, hxsz, hxo⟩ := open_xsw (a := a) (len := len) (cap := cap) ⟨_, g1⟩ (fun n h => hw n (.inr (.inl h)))
    simp at e0 e2 e3 e4 e5
    obtain ⟨rfl, rfl, rfl, rfl, rfl, rfl⟩ := e0
    subst e2 e3 e4 e5
    refine ⟨⟨pt, a, len, cap, c, ky, md, wi, ia, im, icap, I⟩, rfl, ⟨hP, ?_, hI, hi1, hi2⟩, ?_, ⟨hpo, ?_, w2, hi3⟩⟩
    · rw [isX_eq] at hX ⊢
      exact hX
    · refine ⟨hps, ?_, hi4⟩
      rw [wdX_eq] at hxsz ⊢
      exact hxsz
    · rw [xOk_eq] at hxo ⊢
      exact hxo
set_option maxRecDepth 100000 in
/-- A query that came in. -/
theorem open_qw {v : Value} {d : DataW H} {p : List MemPlace} {r : Reach} {b0 : Nat} (hv : Value.okWide Try.prog w r b0 41 v) (h : DataW.Trod enc Try.prog w base spare held 41 v d p) (hwt : ∀ n ∈ d.weights Try.prog 41, n ≤ 140737488351232) :
    ∃ q : Qy, v = q.val ∧ IsQ w q ∧ WdQ q ∧ QOk q := by
  obtain ⟨f0, f1, f2, f3, f4, f5, hu, -⟩ := query_under
  obtain ⟨cs, rfl, hc⟩ := okWide_struct hu hv
  obtain ⟨fuel, hf⟩ := h
  obtain ⟨q, e, hq, hs, ho⟩ := trod_qw hf hwt
  simp only [Value.cells] at e
  refine ⟨q, ?_, hq, hs, ho⟩
  have : cs = q.cells := by
    apply Array.ext'
    simpa using e
  rw [this]
end
end Go.Proofs.Ytjclelmbpmlioaa
