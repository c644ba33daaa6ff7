/-
  TypingKinds: what any condition is, by any schemas and names.
-/
import Derived.Test.YtahlmlbfgijcpaaGreatDoorCTypAwake
import Derived.Test.YtahlmlbfgijcpaaGreatDoorCTypRefAll
namespace Go.Proofs.YtahlmlbfgijcpaaGreatDoor
open Go.RowKit

/-- A Var's type. -/
def tyZ (V T : Nat → ByteArray) (n : Nat) (s : ByteArray) : ByteArray := match idx V s n with | some i => T i | none => ⟨#[]⟩
set_option maxRecDepth 100000 in
set_option maxHeartbeats 4000000 in
theorem kinds_bad (a : Option Addr) (ns cs : Nat) (av : Option Addr) (nv cv : Nat) (at_ : Option Addr) (nt ct : Nat) (x : X) (s : ByteArray) (N T : Addr) (z : Int) (w : World) (hS : Sens w N T) (_ : ¬ z = 0)
    (C1 : ∀ d, Below w.heap.size w d → Calls Tryz.prog 4 #[.slice a ns cs, .slice av nv cv, .slice at_ nt ct] d fun e w' => e = .returned (.tuple #[.pointer none, .int .i64 z]) ∧ Below d.heap.size d w')
    (C2 : ∀ d, Below w.heap.size w d → Calls Tryz.prog 5 #[.slice a ns cs, .slice av nv cv, .slice at_ nt ct] d fun e w' => e = .returned (.tuple #[.pointer none, .int .i64 z]) ∧ Below d.heap.size d w') :
    Calls Tryz.prog 3 #[.slice a ns cs, .slice av nv cv, .slice at_ nt ct, x.val, .string s] w fun e w' => e = .returned (.bool true) ∧ Below w.heap.size w w' := by
  obtain ⟨A, hA, hB, hs, hn⟩ := one_box x w
  have HB : Hid (Below w.heap.size w A) := hB
  have H1 : Hid (∀ d, Below w.heap.size w d → Calls Tryz.prog 4 _ d _) := C1
  have H2 : Hid (∀ d, Below w.heap.size w d → Calls Tryz.prog 5 _ d _) := C2
  have HS : Hid (Sens w N T) := hS
  clear hB hn C1 C2 hS
  go_enter Tryz.func3, Tryz.ntmps3
  go_wp2_with (first
    | (go_at_call 4; refine (H1.out _ HB.out).mono ?_; rintro e w2 ⟨rfl, hB2⟩)
    | (go_at_call 5; refine (H2.out _ (bt HB.out hB2)).mono ?_; rintro e w3 ⟨rfl, hB3⟩)
    | (go_at_call 6; refine (awake10_any N T _ (HS.out.later (bt (bt HB.out hB2) hB3))).mono ?_; rintro e w4 ⟨rfl, hB4⟩))
  go_ret
  exact ⟨rfl, bt (bt (bt HB.out hB2) hB3) hB4⟩
set_option maxRecDepth 100000 in
set_option maxHeartbeats 4000000 in
theorem kinds_good (a : Option Addr) (ns cs : Nat) (Q : Nat → Sch) (av : Option Addr) (nv cv : Nat) (V : Nat → ByteArray) (at_ : Option Addr) (ct : Nat) (Ty : Nat → ByteArray) (x : X) (s : ByteArray) (N T : Addr) (w : World) (hS : Sens w N T) (hX : IsX w x) (ok : XOk x) (hsz : x.size ≤ 1048576) (hss : s.size ≤ maxLen) (hns : ns ≤ 16) (hnv : nv ≤ 1048576)
    (C1 : ∀ d, Below w.heap.size w d → Calls Tryz.prog 4 #[.slice a ns cs, .slice av nv cv, .slice at_ nv ct] d fun e w' => ∃ p m S, e = .returned (.tuple #[.pointer (some ⟨p, 0, none⟩), .int .i64 0]) ∧ NamesIn w' p m nv V S ∧ (∀ j, j < nv → ∃ i, idx (fun i => (Q i).nm) (Ty j) ns = some i ∧ SameS (Q i) (S j)) ∧ Below d.heap.size d w')
    (C2 : ∀ d, Below w.heap.size w d → Calls Tryz.prog 5 #[.slice a ns cs, .slice av nv cv, .slice at_ nv ct] d fun e w' => ∃ p, e = .returned (.tuple #[.pointer (some ⟨p, 0, none⟩), .int .i64 0]) ∧ RefN w' p a ns cs Q av nv cv V at_ ct Ty ∧ Below d.heap.size d w') :
    Calls Tryz.prog 3 #[.slice a ns cs, .slice av nv cv, .slice at_ nv ct, x.val, .string s] w fun e w' => e = .returned (.bool true) ∧ Below w.heap.size w w' := by
  obtain ⟨A, hA, hB, hs, hn⟩ := one_box x w
  have HN : Hid (Node A w.heap.size 0 x) := hn
  have HB : Hid (Below w.heap.size w A) := hB
  have H1 : Hid (∀ d, Below w.heap.size w d → Calls Tryz.prog 4 _ d _) := C1
  have H2 : Hid (∀ d, Below w.heap.size w d → Calls Tryz.prog 5 _ d _) := C2
  have H3 : Hid (∀ (p m : Nat) (S : Nat → Sch) (d : World), Below w.heap.size w d → NamesIn d p m nv V S → Calls Tryz.prog 7 #[.pointer (some ⟨p, 0, none⟩), x.val] d fun e w' => ∃ K E, e = .returned (.tuple #[.int .i64 K, .int .i64 E]) ∧ KindIs (lookS nv V S) x K E ∧ Below d.heap.size d w') := fun p m S d hd h => kindT_calls p m nv V S N T x d h (hS.later hd) (hX.later hd)
  have H4 : Hid (∀ (p : Nat) (S : Nat → Sch) (d : World), Below w.heap.size w d → RefN d p a ns cs Q av nv cv V at_ ct Ty → (∀ j, j < nv → ∃ i, idx (fun i => (Q i).nm) (Ty j) ns = some i ∧ SameS (Q i) (S j)) → Calls Tryz.prog 8 #[.pointer (some ⟨p, 0, none⟩), x.val] d fun e w' => ∃ K E, e = .returned (.tuple #[.int .i64 K, .int .i64 E]) ∧ KindIs (lookS nv V S) x K E ∧ Below d.heap.size d w') := fun p S d hd h hsm => by
    rw [look_same hsm]
    exact refKindU_calls (.pointer (some ⟨p, 0, none⟩)) (lookN nv V Ty ns Q) x d (hX.later hd) ok hsz fun d' h' => refFieldC_any p a ns cs Q av nv cv V at_ ct Ty d' (h.later h') hnv hns fun j hj => by obtain ⟨i, hi, _⟩ := hsm j hj; exact ⟨i, hi⟩
  have H5 : Hid (∀ (p m : Nat) (S : Nat → Sch) (d : World), NamesIn d p m nv V S → (∀ j, j < nv → ∃ i, idx (fun i => (Q i).nm) (Ty j) ns = some i ∧ SameS (Q i) (S j)) → Calls Tryz.prog 9 #[.pointer (some ⟨p, 0, none⟩), .string s] d fun e w' => e = .returned (.tuple #[.string (tyZ V Ty nv s), .bool (idx V s nv).isSome]) ∧ Below d.heap.size d w') := fun p m S d h hsm => by
    refine (type_calls p m nv V S s d h hss).mono ?_
    rintro e w' ⟨rfl, hB⟩
    refine ⟨?_, hB⟩
    unfold tyZ
    cases e : idx V s nv with
    | none => rfl
    | some j =>
      obtain ⟨i, hi, h1, _⟩ := hsm j (idx_some _ _ _ _ e).1
      show Ending.returned (.tuple #[.string (S j).nm, .bool true]) = .returned (.tuple #[.string (Ty j), .bool true])
      rw [h1.trans (idx_some _ _ _ _ hi).2.1]
  have H6 : Hid (∀ (p : Nat) (d : World), RefN d p a ns cs Q av nv cv V at_ ct Ty → Calls Tryz.prog 10 #[.pointer (some ⟨p, 0, none⟩), .string s] d fun e w' => e = .returned (.tuple #[.string (tyZ V Ty nv s), .bool (idx V s nv).isSome]) ∧ Below d.heap.size d w') := fun p d h => by
    refine (refType_any p a ns cs Q av nv cv V at_ ct Ty s d h hnv).mono ?_
    rintro e w' ⟨rfl, hB⟩
    refine ⟨?_, hB⟩
    unfold tyZ
    cases idx V s nv <;> rfl
  have HS : Hid (Sens w N T) := hS
  clear hB hn C1 C2 hS hX ok hsz hss hns
  generalize tyZ V Ty nv s = ts at H5 H6
  generalize (idx V s nv).isSome = tb at H5 H6
  go_enter Tryz.func3, Tryz.ntmps3
  go_wp2_with (first
    | (go_at_call 4; refine (H1.out _ HB.out).mono ?_; rintro e w2 ⟨p, m, S, rfl, hn2, hsm, hB2⟩; have HM2 : Hid (NamesIn w2 p m nv V S) := hn2; have HSM : Hid (∀ j, j < nv → _) := hsm; clear hn2 hsm)
    | (go_at_call 5; refine (H2.out _ (bt HB.out hB2)).mono ?_; rintro e w3 ⟨q, rfl, hr3, hB3⟩; have HR3 : Hid (RefN w3 q a ns cs Q av nv cv V at_ ct Ty) := hr3; clear hr3; obtain ⟨c0, c1, c2, c3, c4, c5, c6⟩ := (HN.out.later (bt hB2 hB3)).at0)
    | (go_at_call 7; refine (H3.out p m S _ (bt (bt HB.out hB2) hB3) (HM2.out.later hB3)).mono ?_; rintro e w4 ⟨K, E, rfl, hk, hB4⟩; have HK : Hid (KindIs (lookS nv V S) x K E) := hk; clear hk; obtain ⟨d0, d1, d2, d3, d4, d5, d6⟩ := (HN.out.later (bt (bt hB2 hB3) hB4)).at0)
    | (go_at_call 8; refine (H4.out q S _ (bt (bt (bt HB.out hB2) hB3) hB4) (HR3.out.later hB4) HSM.out).mono ?_; rintro e w5 ⟨K', E', rfl, hk', hB5⟩; obtain ⟨rfl, rfl⟩ := HK.out.one hk'; clear hk')
    | (go_at_call 9; refine (H5.out p m S _ (HM2.out.later (bt (bt hB3 hB4) hB5)) HSM.out).mono ?_; rintro e w6 ⟨rfl, hB6⟩)
    | (go_at_call 10; refine (H6.out q _ (HR3.out.later (bt (bt hB4 hB5) hB6))).mono ?_; rintro e w7 ⟨rfl, hB7⟩))
  have hB17 : Below w.heap.size w w7 := bt (bt (bt (bt (bt (bt HB.out hB2) hB3) hB4) hB5) hB6) hB7
  have N7 : Hid (Node w7 w.heap.size 0 x) := HN.out.later (bt (bt (bt (bt (bt hB2 hB3) hB4) hB5) hB6) hB7)
  have M7 : NamesIn w7 p m nv V S := HM2.out.later (bt (bt (bt (bt hB3 hB4) hB5) hB6) hB7)
  have R7 : RefN w7 q a ns cs Q av nv cv V at_ ct Ty := HR3.out.later (bt (bt (bt hB4 hB5) hB6) hB7)
  have C11 : Hid (∀ d, Below w7.heap.size w7 d → Calls Tryz.prog 11 #[.pointer (some ⟨p, 0, none⟩), x.val] d fun e w' => e = .returned (.int .i64 (condZ K E)) ∧ Below d.heap.size d w') := fun d hd => by
    refine (cond_calls (.pointer (some ⟨p, 0, none⟩)) (KindIs (lookS nv V S) x) x d fun d' h' => H3.out p m S d' (bt (bt hB17 hd) h') (M7.later (bt hd h'))).mono ?_
    rintro e w' ⟨K', E', rfl, hk', hB'⟩
    obtain ⟨rfl, rfl⟩ := HK.out.one hk'
    exact ⟨rfl, hB'⟩
  have C14 : Hid (∀ d, Below w7.heap.size w7 d → Calls Tryz.prog 12 #[.pointer (some ⟨q, 0, none⟩), x.val] d fun e w' => e = .returned (.int .i64 (condZ K E)) ∧ Below d.heap.size d w') := fun d hd => by
    refine (refCond_calls (.pointer (some ⟨q, 0, none⟩)) (KindIs (lookS nv V S) x) x d fun d' h' => H4.out q S d' (bt (bt hB17 hd) h') (R7.later (bt hd h')) HSM.out).mono ?_
    rintro e w' ⟨K', E', rfl, hk', hB'⟩
    obtain ⟨rfl, rfl⟩ := HK.out.one hk'
    exact ⟨rfl, hB'⟩
  have C28 : Hid (∀ d, Below w7.heap.size w7 d → Calls Tryz.prog 6 #[] d fun e w' => e = .returned (.bool true) ∧ Below d.heap.size d w') := fun d hd => awake10_any N T d (HS.out.later (bt hB17 hd))
  have HB7 : Hid (Below w.heap.size w w7) := hB17
  generalize condZ K E = z at C11 C14
  clear H1 H2 H3 H4 H5 H6 HM2 HSM HR3 M7 R7 HK hB17 HB HN c0 c1 c2 c3 c4 c5 c6 d0 d1 d2 d3 d4 d5 d6 hB2 hB3 hB4 hB5 hB6 hB7 HS hA hs hnv
  refine wp_region_noPanic ?_
  refine wp_region_held_drew (S := fun w' => Below w7.heap.size w7 w') (by kernel_rfl) ((Below.refl _ _).drew) (fun hHeld => ?_)
  have hT : Below w7.heap.size w7 w7.drew := hHeld
  obtain ⟨d, hd⟩ : ∃ d, d = w7.drew := ⟨_, rfl⟩
  rw [← hd] at hHeld hT ⊢
  clear hd
  refine wpAnyH_take (i := 0) (oi := ⟨some 74, Op.move (Operand.tmp 15), 3, _, _, _⟩) (v := ?v0) rfl (by kernel_rfl) (by kernel_rfl) (by kernel_rfl) (fun _ _ _ h => h) (Or.inl ⟨by rfl, ?hy0⟩) hHeld ?rest0
  case hy0 => intro w9 hSw; go_simp; (try with_reducible rfl)
  try simp only [Act.put, List.setIfInBounds_toArray, List.set_cons_zero, List.set_cons_succ]
  refine wpAnyH_take (i := 1) (oi := ⟨some 75, Op.move (Operand.tmp 17), 3, _, _, _⟩) (v := ?v1) rfl (by kernel_rfl) (by kernel_rfl) (by kernel_rfl) (fun _ _ _ h => h) (Or.inl ⟨by rfl, ?hy1⟩) hHeld ?rest1
  case hy1 => intro w9 hSw; go_simp; (try with_reducible rfl)
  try simp only [Act.put, List.setIfInBounds_toArray, List.set_cons_zero, List.set_cons_succ]
  refine wpAnyH_take (i := 2) (oi := ⟨some 76, Op.binOp BinOp.eql 3 (Operand.tmp 74) (Operand.tmp 75) 3, 4, _, _, _⟩) (v := ?v2) rfl (by kernel_rfl) (by kernel_rfl) (by kernel_rfl) (fun _ _ _ h => h) (Or.inl ⟨by rfl, ?hy2⟩) hHeld ?rest2
  case hy2 => intro w9 hSw; go_simp; (try with_reducible rfl)
  try simp only [Act.put, List.setIfInBounds_toArray, List.set_cons_zero, List.set_cons_succ]
  refine wpAnyH_take (i := 3) (oi := ⟨some 77, Op.move (Operand.tmp 76), 4, _, _, _⟩) (v := ?v3) rfl (by kernel_rfl) (by kernel_rfl) (by kernel_rfl) (fun _ _ _ h => h) (Or.inl ⟨by rfl, ?hy3⟩) hHeld ?rest3
  case hy3 => intro w9 hSw; go_simp; (try with_reducible rfl)
  try simp only [Act.put, List.setIfInBounds_toArray, List.set_cons_zero, List.set_cons_succ]
  refine wpAnyH_take (i := 4) (oi := ⟨some 78, Op.move (Operand.tmp 16), 30, _, _, _⟩) (v := ?v4) rfl (by kernel_rfl) (by kernel_rfl) (by kernel_rfl) (fun _ _ _ h => h) (Or.inl ⟨by rfl, ?hy4⟩) hHeld ?rest4
  case hy4 => intro w9 hSw; go_simp; (try with_reducible rfl)
  try simp only [Act.put, List.setIfInBounds_toArray, List.set_cons_zero, List.set_cons_succ]
  refine wpAnyH_take (i := 5) (oi := ⟨some 79, Op.move (Operand.tmp 18), 3, _, _, _⟩) (v := ?v5) rfl (by kernel_rfl) (by kernel_rfl) (by kernel_rfl) (fun _ _ _ h => h) (Or.inl ⟨by rfl, ?hy5⟩) hHeld ?rest5
  case hy5 => intro w9 hSw; go_simp; (try with_reducible rfl)
  try simp only [Act.put, List.setIfInBounds_toArray, List.set_cons_zero, List.set_cons_succ]
  refine wpAnyH_take (i := 6) (oi := ⟨some 80, Op.binOp BinOp.eql 3 (Operand.tmp 78) (Operand.tmp 79) 3, 4, _, _, _⟩) (v := ?v6) rfl (by kernel_rfl) (by kernel_rfl) (by kernel_rfl) (fun _ _ _ h => h) (Or.inl ⟨by rfl, ?hy6⟩) hHeld ?rest6
  case hy6 => intro w9 hSw; go_simp; (try with_reducible rfl)
  try simp only [Act.put, List.setIfInBounds_toArray, List.set_cons_zero, List.set_cons_succ]
  refine wpAnyH_take (i := 7) (oi := ⟨some 81, Op.pick (Operand.tmp 77) (Operand.tmp 80) (Operand.const (Value.bool false)), 4, _, _, _⟩) (v := ?v7) rfl (by kernel_rfl) (by kernel_rfl) (by kernel_rfl) (fun _ _ _ h => h) (Or.inl ⟨by rfl, ?hy7⟩) hHeld ?rest7
  case hy7 => intro w9 hSw; go_simp; (try with_reducible rfl)
  try simp only [Act.put, List.setIfInBounds_toArray, List.set_cons_zero, List.set_cons_succ]
  refine wpAnyH_take (i := 8) (oi := ⟨some 82, Op.move (Operand.tmp 81), 4, _, _, _⟩) (v := ?v8) rfl (by kernel_rfl) (by kernel_rfl) (by kernel_rfl) (fun _ _ _ h => h) (Or.inl ⟨by rfl, ?hy8⟩) hHeld ?rest8
  case hy8 => intro w9 hSw; go_simp; (try with_reducible rfl)
  try simp only [Act.put, List.setIfInBounds_toArray, List.set_cons_zero, List.set_cons_succ]
  refine wpAnyH_take (i := 9) (oi := ⟨some 83, Op.move (Operand.tmp 11), 29, _, _, _⟩) (v := ?v9) rfl (by kernel_rfl) (by kernel_rfl) (by kernel_rfl) (fun _ _ _ h => h) (Or.inl ⟨by rfl, ?hy9⟩) hHeld ?rest9
  case hy9 => intro w9 hSw; go_simp; (try with_reducible rfl)
  try simp only [Act.put, List.setIfInBounds_toArray, List.set_cons_zero, List.set_cons_succ]
  refine wpAnyH_take (i := 10) (oi := ⟨some 84, Op.load 28 (Operand.tmp 8), 28, _, _, _⟩) (v := ?v10) rfl (by kernel_rfl) (by kernel_rfl) (by kernel_rfl) (fun _ _ _ h => h) (Or.inl ⟨by rfl, ?hy10⟩) hHeld ?rest10
  case hy10 => intro w9 hSw; obtain ⟨d0, d1, d2, d3, d4, d5, d6⟩ := (N7.out.later hSw).at0; go_simp; (try with_reducible rfl)
  try simp only [Act.put, List.setIfInBounds_toArray, List.set_cons_zero, List.set_cons_succ]
  refine wpAnyH_take (i := 12) (oi := ⟨some 86, Op.move (Operand.tmp 13), 33, _, _, _⟩) (v := ?v12) rfl (by kernel_rfl) (by kernel_rfl) (by kernel_rfl) (fun _ _ _ h => h) (Or.inl ⟨by rfl, ?hy12⟩) hHeld ?rest12
  case hy12 => intro w9 hSw; go_simp; (try with_reducible rfl)
  try simp only [Act.put, List.setIfInBounds_toArray, List.set_cons_zero, List.set_cons_succ]
  refine wpAnyH_take (i := 13) (oi := ⟨some 87, Op.load 28 (Operand.tmp 8), 28, _, _, _⟩) (v := ?v13) rfl (by kernel_rfl) (by kernel_rfl) (by kernel_rfl) (fun _ _ _ h => h) (Or.inl ⟨by rfl, ?hy13⟩) hHeld ?rest13
  case hy13 => intro w9 hSw; obtain ⟨d0, d1, d2, d3, d4, d5, d6⟩ := (N7.out.later hSw).at0; go_simp; (try with_reducible rfl)
  try simp only [Act.put, List.setIfInBounds_toArray, List.set_cons_zero, List.set_cons_succ]
  refine wpAnyH_ready (rs := [11]) (by kernel_rfl) (by simp) ?_
  refine AllReadyH.cons (o := ⟨some 85, Op.call { callee := Callee.value (Operand.func 11), args := #[Operand.tmp 83, Operand.tmp 84], argTypes := #[29, 28] }, 30, _, _, _⟩) rfl (fun K hK => ?_) AllReadyH.nil
  go_simp
  refine (C11.out _ hHeld).mono ?_
  rintro e x11 ⟨rfl, hN11⟩
  go_wp2_with fail
  have hT11 : Below w7.heap.size w7 x11 := hT.trans (hN11.mono hT.size)
  refine hK.out _ _ (hHeld.trans (hN11.mono hHeld.size)) (fun _ => held_up (S' := fun w' => Below x11.heap.size x11 w') (fun w' h' => (hHeld.trans (hN11.mono hHeld.size)).trans (h'.mono (Nat.le_trans hHeld.size hN11.size))) _ _ _ _ ?_)
  clear hK K hHeld hT
  have hT : Below w7.heap.size w7 x11 := hT11
  have hHeld : Below x11.heap.size x11 x11 := Below.refl _ _
  clear hT11 hN11
  try simp only [Act.put, List.setIfInBounds_toArray, List.set_cons_zero, List.set_cons_succ]
  refine wpAnyH_ready (rs := [14]) (by kernel_rfl) (by simp) ?_
  refine AllReadyH.cons (o := ⟨some 88, Op.call { callee := Callee.value (Operand.func 12), args := #[Operand.tmp 86, Operand.tmp 87], argTypes := #[33, 28] }, 3, _, _, _⟩) rfl (fun K hK => ?_) AllReadyH.nil
  go_simp
  refine (C14.out _ hT).mono ?_
  rintro e x14 ⟨rfl, hN14⟩
  go_wp2_with fail
  have hT14 : Below w7.heap.size w7 x14 := hT.trans (hN14.mono hT.size)
  refine hK.out _ _ (hHeld.trans (hN14.mono hHeld.size)) (fun _ => held_up (S' := fun w' => Below x14.heap.size x14 w') (fun w' h' => (hHeld.trans (hN14.mono hHeld.size)).trans (h'.mono (Nat.le_trans hHeld.size hN14.size))) _ _ _ _ ?_)
  clear hK K hHeld hT
  have hT : Below w7.heap.size w7 x14 := hT14
  have hHeld : Below x14.heap.size x14 x14 := Below.refl _ _
  clear hT14 hN14
  try simp only [Act.put, List.setIfInBounds_toArray, List.set_cons_zero, List.set_cons_succ]
  refine wpAnyH_take (i := 15) (oi := ⟨some 89, Op.binOp BinOp.eql 3 (Operand.tmp 85) (Operand.tmp 88) 3, 4, _, _, _⟩) (v := ?v15) rfl (by kernel_rfl) (by kernel_rfl) (by kernel_rfl) (fun _ _ _ h => h) (Or.inl ⟨by rfl, ?hy15⟩) hHeld ?rest15
  case hy15 => intro w9 hSw; go_simp; (try with_reducible rfl)
  try simp only [Act.put, List.setIfInBounds_toArray, List.set_cons_zero, List.set_cons_succ]
  refine wpAnyH_take (i := 16) (oi := ⟨some 90, Op.pick (Operand.tmp 82) (Operand.tmp 89) (Operand.const (Value.bool false)), 4, _, _, _⟩) (v := ?v16) rfl (by kernel_rfl) (by kernel_rfl) (by kernel_rfl) (fun _ _ _ h => h) (Or.inl ⟨by rfl, ?hy16⟩) hHeld ?rest16
  case hy16 => intro w9 hSw; go_simp; (try with_reducible rfl)
  try simp only [Act.put, List.setIfInBounds_toArray, List.set_cons_zero, List.set_cons_succ]
  refine wpAnyH_take (i := 17) (oi := ⟨some 91, Op.move (Operand.tmp 90), 4, _, _, _⟩) (v := ?v17) rfl (by kernel_rfl) (by kernel_rfl) (by kernel_rfl) (fun _ _ _ h => h) (Or.inl ⟨by rfl, ?hy17⟩) hHeld ?rest17
  case hy17 => intro w9 hSw; go_simp; (try with_reducible rfl)
  try simp only [Act.put, List.setIfInBounds_toArray, List.set_cons_zero, List.set_cons_succ]
  refine wpAnyH_take (i := 18) (oi := ⟨some 92, Op.move (Operand.tmp 19), 9, _, _, _⟩) (v := ?v18) rfl (by kernel_rfl) (by kernel_rfl) (by kernel_rfl) (fun _ _ _ h => h) (Or.inl ⟨by rfl, ?hy18⟩) hHeld ?rest18
  case hy18 => intro w9 hSw; go_simp; (try with_reducible rfl)
  try simp only [Act.put, List.setIfInBounds_toArray, List.set_cons_zero, List.set_cons_succ]
  refine wpAnyH_take (i := 19) (oi := ⟨some 93, Op.move (Operand.tmp 21), 9, _, _, _⟩) (v := ?v19) rfl (by kernel_rfl) (by kernel_rfl) (by kernel_rfl) (fun _ _ _ h => h) (Or.inl ⟨by rfl, ?hy19⟩) hHeld ?rest19
  case hy19 => intro w9 hSw; go_simp; (try with_reducible rfl)
  try simp only [Act.put, List.setIfInBounds_toArray, List.set_cons_zero, List.set_cons_succ]
  refine wpAnyH_take (i := 20) (oi := ⟨some 94, Op.binOp BinOp.eql 9 (Operand.tmp 92) (Operand.tmp 93) 9, 4, _, _, _⟩) (v := ?v20) rfl (by kernel_rfl) (by kernel_rfl) (by kernel_rfl) (fun _ _ _ h => h) (Or.inl ⟨by rfl, ?hy20⟩) hHeld ?rest20
  case hy20 => intro w9 hSw; have s1 : (ts.toList == ts.toList) = true := (by simp); go_simp; (try with_reducible rfl)
  try simp only [Act.put, List.setIfInBounds_toArray, List.set_cons_zero, List.set_cons_succ]
  refine wpAnyH_take (i := 21) (oi := ⟨some 95, Op.pick (Operand.tmp 91) (Operand.tmp 94) (Operand.const (Value.bool false)), 4, _, _, _⟩) (v := ?v21) rfl (by kernel_rfl) (by kernel_rfl) (by kernel_rfl) (fun _ _ _ h => h) (Or.inl ⟨by rfl, ?hy21⟩) hHeld ?rest21
  case hy21 => intro w9 hSw; go_simp; (try with_reducible rfl)
  try simp only [Act.put, List.setIfInBounds_toArray, List.set_cons_zero, List.set_cons_succ]
  refine wpAnyH_take (i := 22) (oi := ⟨some 96, Op.move (Operand.tmp 95), 4, _, _, _⟩) (v := ?v22) rfl (by kernel_rfl) (by kernel_rfl) (by kernel_rfl) (fun _ _ _ h => h) (Or.inl ⟨by rfl, ?hy22⟩) hHeld ?rest22
  case hy22 => intro w9 hSw; go_simp; (try with_reducible rfl)
  try simp only [Act.put, List.setIfInBounds_toArray, List.set_cons_zero, List.set_cons_succ]
  refine wpAnyH_take (i := 23) (oi := ⟨some 97, Op.move (Operand.tmp 20), 4, _, _, _⟩) (v := ?v23) rfl (by kernel_rfl) (by kernel_rfl) (by kernel_rfl) (fun _ _ _ h => h) (Or.inl ⟨by rfl, ?hy23⟩) hHeld ?rest23
  case hy23 => intro w9 hSw; go_simp; (try with_reducible rfl)
  try simp only [Act.put, List.setIfInBounds_toArray, List.set_cons_zero, List.set_cons_succ]
  refine wpAnyH_take (i := 24) (oi := ⟨some 98, Op.move (Operand.tmp 22), 4, _, _, _⟩) (v := ?v24) rfl (by kernel_rfl) (by kernel_rfl) (by kernel_rfl) (fun _ _ _ h => h) (Or.inl ⟨by rfl, ?hy24⟩) hHeld ?rest24
  case hy24 => intro w9 hSw; go_simp; (try with_reducible rfl)
  try simp only [Act.put, List.setIfInBounds_toArray, List.set_cons_zero, List.set_cons_succ]
  refine wpAnyH_take (i := 25) (oi := ⟨some 99, Op.binOp BinOp.eql 4 (Operand.tmp 97) (Operand.tmp 98) 4, 4, _, _, _⟩) (v := ?v25) rfl (by kernel_rfl) (by kernel_rfl) (by kernel_rfl) (fun _ _ _ h => h) (Or.inl ⟨by rfl, ?hy25⟩) hHeld ?rest25
  case hy25 => intro w9 hSw; have s1 : (tb == tb) = true := (by simp); go_simp; (try with_reducible rfl)
  try simp only [Act.put, List.setIfInBounds_toArray, List.set_cons_zero, List.set_cons_succ]
  refine wpAnyH_take (i := 26) (oi := ⟨some 100, Op.pick (Operand.tmp 96) (Operand.tmp 99) (Operand.const (Value.bool false)), 4, _, _, _⟩) (v := ?v26) rfl (by kernel_rfl) (by kernel_rfl) (by kernel_rfl) (fun _ _ _ h => h) (Or.inl ⟨by rfl, ?hy26⟩) hHeld ?rest26
  case hy26 => intro w9 hSw; go_simp; (try with_reducible rfl)
  try simp only [Act.put, List.setIfInBounds_toArray, List.set_cons_zero, List.set_cons_succ]
  refine wpAnyH_take (i := 27) (oi := ⟨some 101, Op.move (Operand.tmp 100), 4, _, _, _⟩) (v := ?v27) rfl (by kernel_rfl) (by kernel_rfl) (by kernel_rfl) (fun _ _ _ h => h) (Or.inl ⟨by rfl, ?hy27⟩) hHeld ?rest27
  case hy27 => intro w9 hSw; go_simp; (try with_reducible rfl)
  try simp only [Act.put, List.setIfInBounds_toArray, List.set_cons_zero, List.set_cons_succ]
  refine wpAnyH_ready (rs := [28]) (by kernel_rfl) (by simp) ?_
  refine AllReadyH.cons (o := ⟨some 102, Op.call { callee := Callee.value (Operand.func 6), args := #[], argTypes := #[] }, 4, _, _, _⟩) rfl (fun K hK => ?_) AllReadyH.nil
  go_simp
  refine (C28.out _ hT).mono ?_
  rintro e x28 ⟨rfl, hN28⟩
  go_wp2_with fail
  have hT28 : Below w7.heap.size w7 x28 := hT.trans (hN28.mono hT.size)
  refine hK.out _ _ (hHeld.trans (hN28.mono hHeld.size)) (fun _ => held_up (S' := fun w' => Below x28.heap.size x28 w') (fun w' h' => (hHeld.trans (hN28.mono hHeld.size)).trans (h'.mono (Nat.le_trans hHeld.size hN28.size))) _ _ _ _ ?_)
  clear hK K hHeld hT
  have hT : Below w7.heap.size w7 x28 := hT28
  have hHeld : Below x28.heap.size x28 x28 := Below.refl _ _
  clear hT28 hN28
  try simp only [Act.put, List.setIfInBounds_toArray, List.set_cons_zero, List.set_cons_succ]
  refine wpAnyH_take (i := 29) (oi := ⟨some 103, Op.pick (Operand.tmp 101) (Operand.tmp 102) (Operand.const (Value.bool false)), 4, _, _, _⟩) (v := ?v29) rfl (by kernel_rfl) (by kernel_rfl) (by kernel_rfl) (fun _ _ _ h => h) (Or.inl ⟨by rfl, ?hy29⟩) hHeld ?rest29
  case hy29 => intro w9 hSw; go_simp; (try with_reducible rfl)
  try simp only [Act.put, List.setIfInBounds_toArray, List.set_cons_zero, List.set_cons_succ]
  refine wpAnyH_take (i := 30) (oi := ⟨some 10, Op.assign (Operand.tmp 103), 4, _, _, _⟩) (v := ?v30) rfl (by kernel_rfl) (by kernel_rfl) (by kernel_rfl) (fun _ _ _ h => h) (Or.inl ⟨by rfl, ?hy30⟩) hHeld ?rest30
  case hy30 => intro w9 hSw; go_simp; (try with_reducible rfl)
  try simp only [Act.put, List.setIfInBounds_toArray, List.set_cons_zero, List.set_cons_succ]
  refine wpAnyH_done (by kernel_rfl) ?_ _
  refine NoPanic.normal ?_
  go_wp2
  go_ret
  exact ⟨rfl, bt HB7.out hT⟩
theorem kinds_walk (a : Option Addr) (ns cs : Nat) (Q : Nat → Sch) (av : Option Addr) (nv cv : Nat) (V : Nat → ByteArray) (at_ : Option Addr) (nt ct : Nat) (Ty : Nat → ByteArray) (x : X) (s : ByteArray) (N T : Addr) (w : World) (hS : Sens w N T) (H : Schs w a ns Q) (hV : Txs w av nv V) (hT : Txs w at_ nt Ty) (hX : IsX w x) (ok : XOk x) (hsz : x.size ≤ 1048576) (hss : s.size ≤ maxLen) (hVs : ∀ j, j < nv → (V j).size ≤ maxLen) (hnt : nt ≤ 1048576) :
    Calls Tryz.prog 3 #[.slice a ns cs, .slice av nv cv, .slice at_ nt ct, x.val, .string s] w fun e w' => e = .returned (.bool true) ∧ Below w.heap.size w w' := by
  by_cases hz : newZ nv nt Ty ns Q = 0
  · have hne : bookZ ns Q = 0 ∧ nv = nt := by
      refine Classical.byContradiction fun h => ?_
      rw [newZ, if_neg h] at hz
      cases hz
    obtain ⟨hb, rfl⟩ := hne
    refine kinds_good a ns cs Q av nv cv V at_ ct Ty x s N T w hS hX ok hsz hss (book_small hb).1 hnt (fun d hd => ?_) (fun d hd => ?_)
    · refine (new_any a ns cs Q av nv cv V at_ nv ct Ty d (H.later hd) (hV.later hd) (hT.later hd) hnt hVs).mono ?_
      rintro e w' (⟨_, _, h⟩ | ⟨h, _⟩)
      · exact h
      · exact absurd hz h
    · refine (refNew_any a ns cs Q av nv cv V at_ nv ct Ty d (H.later hd) (hV.later hd) (hT.later hd) hnt).mono ?_
      rintro e w' (⟨_, _, _, _, h⟩ | ⟨h, _⟩)
      · exact h
      · exact absurd hz h
  · refine kinds_bad a ns cs av nv cv at_ nt ct x s N T (newZ nv nt Ty ns Q) w hS hz (fun d hd => ?_) (fun d hd => ?_)
    · refine (new_any a ns cs Q av nv cv V at_ nt ct Ty d (H.later hd) (hV.later hd) (hT.later hd) hnt hVs).mono ?_
      rintro e w' (⟨h, _⟩ | ⟨_, h⟩)
      · exact absurd h hz
      · exact h
    · refine (refNew_any a ns cs Q av nv cv V at_ nt ct Ty d (H.later hd) (hV.later hd) (hT.later hd) hnt).mono ?_
      rintro e w' (⟨h, _⟩ | ⟨_, h⟩)
      · exact absurd h hz
      · exact h
end Go.Proofs.YtahlmlbfgijcpaaGreatDoor
