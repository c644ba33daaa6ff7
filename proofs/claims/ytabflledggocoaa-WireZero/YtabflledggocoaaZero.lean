/-
  WireZero: a writer or a reader that is nil, or that no call made, answers ErrZero, no bytes, 0; at every slice of bytes.
  The frame (from 'own' on, but for 'walk') is the kit's shell.
-/
import Derived.Test.YtabflledggocoaaRows
import Derived.WalkKit
import Derived.ProofKit
import Derived.OpenShut
import Derived.ShutString
import Derived.ChangeOld
import Derived.Below
import Derived.Test.YtabflledggocoaaMade
namespace Go.Proofs.Ytabflledggocoaa.wireZero
open Go.ChangeShapes Go.WideShapes Go.ChangeAt Go.RowKit
open Go.ChangeMaps (open_string shut_string)
set_option linter.unusedVariables false

theorem own : ownKnob Try.prog.godebug = none := by kernel_rfl
theorem laidOut : laidOutB Try.prog = true := by kernel_rfl

/-- WHAT THE WALK IS TOLD OF A SLICE OF INTEGERS THAT CAME IN: it is nil; or it leads to a row of 'cap' cells, the numbers 'zs' (the first 'len' are its elements, the rest its spare room), each fitting its kind. -/
def IsRow (k : IntKind) (w : World) (a : Option Addr) (len cap : Nat) (zs : List Int) : Prop :=
  (a = none ∧ len = 0 ∧ cap = 0 ∧ zs = []) ∨
  ∃ x, a = some x ∧ len ≤ cap ∧ cap ≤ maxLen ∧ zs.length = cap ∧ (∀ i, i < zs.length → w.cell? (x.add i) = some (.int k (zs.getD i 0))) ∧ ∀ n ∈ zs, (Lit.int k n).wf = true

/-! ### STEP 1: THE WALK: the Go text returns true, AND WRITES NOTHING THAT WAS THERE: 'Below w.heap.size w w'' (Derived/Below.lean: '.refl', '.alloc', '.drew', '.setCell' at a new block, '.trans'). Open each 'IsRow' by 'rcases' AHEAD of 'go_enter'; part every test ahead of the walk. -/
theorem walk (a0 : Option Addr) (len0 cap0 : Nat) (z0 : List Int) (w : World) (w0 : IsRow .u8 w a0 len0 cap0 z0) :
    Calls Try.prog 5 #[.slice a0 len0 cap0] w fun e w' => e = .returned (.bool true) ∧ Below w.heap.size w w' := by
  obtain ⟨ys, hb⟩ := isBytes_of w0
  clear w0
  have hlen : (strOf ys).size ≤ maxLen := by rw [strOf_size, hb.1]; exact Nat.le_trans hb.2.1 hb.2.2.1
  have HB : Hid (IsBytes w a0 len0 cap0 ys) := hb
  have HL : Hid ((strOf ys).size ≤ maxLen) := hlen
  clear hb hlen
  go_enter Try.func5, Try.ntmps5
  go_wp2_with (first
    | (go_at_call 22
       refine (rbyte_no (.inl rfl)).mono ?_
       rintro e w1 ⟨rfl, hw1⟩
       have hB1 : Below w.heap.size w w1 := by rw [hw1]; exact ((Below.refl _ w).alloc (Nat.le_refl _) _).alloc (by simp) _
       have hV : NoW w1 (.pointer (some ⟨w.heap.size, 0, none⟩)) := .inr ⟨_, rfl, by rw [hw1]; simp⟩
       have hS : NoW w1 (.pointer (some ⟨w.heap.size + 1, 0, none⟩)) := .inr ⟨_, rfl, by rw [hw1]; simp⟩
       have HV : Hid (NoW w1 (.pointer (some ⟨w.heap.size, 0, none⟩))) := hV
       have HS : Hid (NoW w1 (.pointer (some ⟨w.heap.size + 1, 0, none⟩))) := hS
       clear hw1 hV hS)
    | (go_at_call 21
       refine (rtext_no _ HS.out).mono ?_
       rintro e w2 ⟨rfl, hw2⟩
       replace hw2 := hw2.symm
       subst hw2)
    | (go_at_call 9
       refine (wnum_no 1 (by omega) (.inl rfl)).mono ?_
       rintro e w3 ⟨rfl, hB3⟩
       have hconv := conv_in (HB.out.later (hB1.trans (hB3.mono hB1.size))))
    | (go_at_call 13
       refine (wtext_no (strOf ys) HL.out (HV.out.later hB3)).mono ?_
       rintro e w4 ⟨rfl, hB4⟩)
    | (go_at_call 15
       refine (wbyte_no 1 (.inl rfl)).mono ?_
       rintro e w5 ⟨rfl, hB5⟩)
    | (go_at_call 17
       refine (wdone_no (((HV.out.later hB3).later hB4).later hB5)).mono ?_
       rintro e w6 ⟨rfl, hw6⟩
       replace hw6 := hw6.symm
       subst hw6)
    | (go_at_call 24
       refine (rat_no (.inl rfl)).mono ?_
       rintro e w7 ⟨rfl, hw7⟩
       replace hw7 := hw7.symm
       subst hw7)
    | (go_at_call 23
       refine (rend_no (((HS.out.later hB3).later hB4).later hB5)).mono ?_
       rintro e w8 ⟨rfl, hw8⟩
       replace hw8 := hw8.symm
       subst hw8))
  go_ret
  exact ⟨rfl, ((hB1.trans (hB3.mono hB1.size)).trans (hB4.mono (Nat.le_trans hB1.size hB3.size))).trans (hB5.mono (Nat.le_trans (Nat.le_trans hB1.size hB3.size) hB4.size))⟩

/-! ### THE ROW's STEP: WRITTEN OUT: LEAVE IT -/
set_option maxRecDepth 100000 in
theorem lifted (os : Os) (started : os.Started) (H : Type) (enc : TypeId × Value → H) :
    ReturnsInHanded {} Try.checked os 5 .any (Rows.wireZeroSpec.pre6 enc Try.prog Try.f5 Rows.wireZeroRow.domain false) (Rows.wireZeroSpec.post enc Try.prog Try.f5 false true false false) := by
  refine returnsInHanded_of_change (C := Try.checked) own started (by kernel_rfl) Try.func5
    (ChangeSpec.witness6 (enc := enc) (C := Try.checked) false ⟨#[], #[.slice none 0 0], []⟩ 8 (by kernel_rfl) (by kernel_rfl) (by kernel_rfl) (by kernel_rfl)) ?_
  intro W base args ds gs before hval0 hW hcnd _
  have hval : ∀ (j : Nat) t v, Try.f5.params[j]? = some t → args[j]? = some v → Value.okWide Try.prog W .any base t v := hval0
  have hW' := hW
  obtain ⟨p, q, hA0, hV, rfl, hfz, hnd⟩ := hW
  have hA : DataW.TrodAll enc Try.prog W 0 (fun _ => true) true Try.f5.params.toList args.toList ds p := hA0
  rw [Try.params5] at hA hval
  obtain ⟨v0, vs0, d0, ds0, p0, q0, hargs, rfl, rfl, h0, r0⟩ := trodAll_cons hA
  obtain ⟨rfl, rfl, rfl⟩ := trodAll_nil r0
  obtain rfl : args = #[v0] := by cases args; simp_all
  obtain ⟨rfl, rfl⟩ := trodVars_none hV
  obtain ⟨a0, len0, cap0, rfl⟩ := okWide_slice Try.underlying22 (hval 0 22 v0 rfl rfl)
  have k0 := h0
  have lt0 : ∀ x ∈ p0, x.block < W.heap.size := by obtain ⟨m, hm⟩ := k0; exact DataW.trod_lt m _ _ _ hm
  obtain ⟨z0, w0⟩ : ∃ zs, IsRow .u8 W a0 len0 cap0 zs := by
    obtain ⟨fuel, hf⟩ := h0
    rcases open_ints Try.underlying22 Try.underlying5 (by kernel_rfl) hf with ⟨hcs, _⟩ | ⟨x, l, c, zs, hcs, _, hl, hm, hz, _, hcell, hwz⟩
    · simp [Value.cells] at hcs
      obtain ⟨rfl, rfl, rfl⟩ := hcs
      exact ⟨[], .inl ⟨rfl, rfl, rfl, rfl⟩⟩
    · simp [Value.cells] at hcs
      obtain ⟨rfl, rfl, rfl⟩ := hcs
      exact ⟨zs, .inr ⟨_, rfl, hl, hm, by simpa using hz, hcell, hwz⟩⟩
  clear hA0 hval0
  refine (walk a0 len0 cap0 z0 W w0).mono fun e W' ⟨he, bel⟩ => ?_
  subst he
  exact ⟨_, rfl, _, _, _, [], _, [], hW', trodAll_mk1 (shut_bool Try.underlying4 _), (trodAll_cons_mk (Below.trod laidOut (by kernel_rfl) (of_decide_eq_true (by kernel_rfl)) k0 bel lt0) trodAll_mk0), rfl, bel.frame _, fun h => by cases h⟩

theorem over : Rows.wireZeroRow.holds Try.pinned (OpenSpec.ofChange Rows.wireZeroSpec) :=
  OpenClaim.holds_of_wide 5 Try.f5 rfl rfl rfl rfl rfl rfl rfl ⟨rfl, rfl, rfl, rfl, rfl⟩ rfl rfl rfl rfl rfl (by kernel_rfl) Try.func5 (by kernel_rfl)
    (of_decide_eq_true (by kernel_rfl)) (by unfold Func.isWrapper; first | (rw [if_pos (by decide +kernel)]; kernel_rfl) | (rw [if_neg (by decide +kernel)]; exact ⟨rfl, rfl⟩))
    (fun os started H enc _ => lifted os started H enc)

/-- ████ THE STATEMENT ████ -/
theorem proved : Rows.WireZeroSaid := over
end Go.Proofs.Ytabflledggocoaa.wireZero
namespace Go.Proofs.Ytabflledggocoaa
theorem wireZero_holds : Rows.WireZeroSaid := wireZero.proved
#print axioms wireZero_holds
end Go.Proofs.Ytabflledggocoaa
