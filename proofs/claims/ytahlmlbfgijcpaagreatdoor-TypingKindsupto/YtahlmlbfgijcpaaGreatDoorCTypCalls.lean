/-
  typing's calls upon names that New made: field, made, Kind, Cond, Type.
-/
import Derived.Test.YtahlmlbfgijcpaaGreatDoorCTypNames
import Derived.Test.YtahlmlbfgijcpaaGreatDoorCExprCheck
namespace Go.Proofs.YtahlmlbfgijcpaaGreatDoor
open Go.RowKit

abbrev ptrV (p : Nat) : Value := .pointer (some ⟨p, 0, none⟩)
/-- A Var's field, by the schemas of the Vars. -/
def lookS (n : Nat) (V : Nat → ByteArray) (S : Nat → Sch) (v f : ByteArray) : Option Int :=
  match idx V v n with
  | none => none
  | some i => match idx (S i).fn f (S i).l with
    | none => none
    | some k => some ((S i).fk k)
theorem field_at (x : Sch) (f : ByteArray) (w : World) (hF : Flds w x.a x.l x.fn x.fk) (hl : x.l ≤ 16) : Calls Tryz.prog 55 #[schV x.nm x.v, .string f] w fun e w' => ∃ i : Int, e = .returned (.tuple #[.int .i64 i, .int .i64 (match idx x.fn f x.l with | none => 0 | some k => x.fk k), .bool (idx x.fn f x.l).isSome]) ∧ Below w.heap.size w w' := by
  cases e : idx x.fn f x.l with
  | none =>
    refine (field_none x.nm x.a x.l x.c x.fn x.fk f w hF (by omega) (idx_none _ _ _ e)).mono ?_
    rintro e w' ⟨rfl, hB⟩
    exact ⟨0, rfl, hB⟩
  | some k =>
    obtain ⟨h1, h2, h3⟩ := idx_some _ _ _ _ e
    refine (field_some x.nm x.a x.l x.c k x.fn x.fk f w hF (by omega) h1 h2 h3).mono ?_
    rintro e w' ⟨rfl, hB⟩
    exact ⟨k, rfl, hB⟩
theorem field_zero (f : ByteArray) (w : World) : Calls Tryz.prog 55 #[schZ, .string f] w fun e w' => ∃ i : Int, e = .returned (.tuple #[.int .i64 i, .int .i64 0, .bool false]) ∧ Below w.heap.size w w' := by
  refine (field_none ⟨#[]⟩ none 0 0 (fun _ => ⟨#[]⟩) (fun _ => 0) f w (fun h => by omega) (by omega) (fun j hj => by omega)).mono ?_
  rintro e w' ⟨rfl, hB⟩
  exact ⟨0, rfl, hB⟩
set_option maxRecDepth 100000 in
set_option maxHeartbeats 2000000 in
theorem field_walk (p m : Nat) (s f : ByteArray) (v : Value) (N : Addr) (k : Int) (b : Bool) (w : World) (hc : w.cell? ⟨p, 0, none⟩ = some (.map (some m))) (gN : w.cell? ⟨1, 0, none⟩ = some (senV N))
    (hl : (Instr.lookup 48 (.map (some m)) (.string s) false).run Tryz.prog w = .ok v w) (C : Calls Tryz.prog 55 #[v, .string f] w fun e w' => ∃ i : Int, e = .returned (.tuple #[.int .i64 i, .int .i64 k, .bool b]) ∧ Below w.heap.size w w') :
    Calls Tryz.prog 37 #[ptrV p, .string s, .string f] w fun e w' => e = .returned (.tuple #[.int .i64 (if b = true then k else 0), if b = true then .nilIface else senV N]) ∧ Below w.heap.size w w' := by
  have HC : Hid (Calls Tryz.prog 55 _ w _) := C
  clear C
  cases b
  · go_enter Tryz.func37, Tryz.ntmps37
    go_wp2_with (first | (go_at_call 55; refine HC.out.mono ?_; rintro e w2 ⟨i, rfl, hB2⟩; have gN2 := cell_later gN hB2))
    go_quiet (fail)
    go_wp2
    exact bodyPost_ret (v := .tuple #[.int .i64 0, senV N]) (by simp [results, Tryz.results37, go_sem]) rfl ⟨by simp, bd hB2 _⟩
  · go_enter Tryz.func37, Tryz.ntmps37
    go_wp2_with (first | (go_at_call 55; refine HC.out.mono ?_; rintro e w2 ⟨i, rfl, hB2⟩; have gN2 := cell_later gN hB2))
    exact bodyPost_ret (v := .tuple #[.int .i64 k, .nilIface]) (by simp [results, Tryz.results37, go_sem]) rfl ⟨by simp, hB2⟩
/-- field of names that New made. -/
theorem fieldC_any (p m n : Nat) (V : Nat → ByteArray) (S : Nat → Sch) (N T : Addr) (w : World) (h : NamesIn w p m n V S) (hS : Sens w N T) : FieldC (ptrV p) N (lookS n V S) w := by
  intro s f hs
  have hl := h.look s hs
  unfold lookS
  unfold atV at hl
  cases e : idx V s n with
  | none =>
    rw [e] at hl
    refine (field_walk p m s f schZ N 0 false w h.box hS.vN hl (field_zero f w)).mono ?_
    rintro e w' ⟨rfl, hB⟩
    exact ⟨rfl, hB⟩
  | some i =>
    rw [e] at hl
    have hi := (idx_some V s n i e).1
    have C := field_at (S i) f w (h.flds i hi).1 (h.flds i hi).2
    refine (field_walk p m s f (schV (S i).nm (S i).v) N _ _ w h.box hS.vN hl C).mono ?_
    rintro e w' ⟨rfl, hB⟩
    refine ⟨?_, hB⟩
    show _ = Ending.returned (.tuple #[.int .i64 (fldK (match idx (S i).fn f (S i).l with | none => none | some k => some ((S i).fk k))), fldE N (match idx (S i).fn f (S i).l with | none => none | some k => some ((S i).fk k))])
    cases idx (S i).fn f (S i).l <;> rfl
/-- What Kind answers. -/
def KindIs (L : ByteArray → ByteArray → Option Int) (x : X) (K E : Int) : Prop :=
  (x.size ≤ 100 ∧ TreeR x ∧ K = (kindE L x).1 ∧ E = (kindE L x).2) ∨ (¬ (x.size ≤ 100 ∧ TreeR x) ∧ K = 0 ∧ E = 1)
theorem KindIs.one {L : ByteArray → ByteArray → Option Int} {x : X} {K E K' E' : Int} (h : KindIs L x K E) (h' : KindIs L x K' E') : K = K' ∧ E = E' := by
  rcases h with ⟨a, b, rfl, rfl⟩ | ⟨a, rfl, rfl⟩ <;> rcases h' with ⟨c, d, rfl, rfl⟩ | ⟨c, rfl, rfl⟩
  · exact ⟨rfl, rfl⟩
  · exact absurd ⟨a, b⟩ c
  · exact absurd ⟨c, d⟩ a
  · exact ⟨rfl, rfl⟩
set_option maxRecDepth 100000 in
set_option maxHeartbeats 1000000 in
theorem made_any (p m : Nat) (w : World) (hc : w.cell? ⟨p, 0, none⟩ = some (.map (some m))) : Calls Tryz.prog 20 #[ptrV p] w fun e w' => e = .returned (.bool true) ∧ Below w.heap.size w w' := by
  have hq : ∀ w, (binOp .neq 48 (.map (some m)) (.map none)).run Tryz.prog w = .ok (.bool true) w := fun _ => rfl
  go_enter Tryz.func20, Tryz.ntmps20
  go_wp2
  go_ret
  exact ⟨rfl, Below.refl _ _⟩
set_option maxRecDepth 100000 in
set_option maxHeartbeats 2000000 in
theorem kindT_calls (p m n : Nat) (V : Nat → ByteArray) (S : Nat → Sch) (N T : Addr) (x : X) (w : World) (h : NamesIn w p m n V S) (hS : Sens w N T) (hX : IsX w x) : Calls Tryz.prog 7 #[ptrV p, x.val] w fun e w' => ∃ K E, e = .returned (.tuple #[.int .i64 K, .int .i64 E]) ∧ KindIs (lookS n V S) x K E ∧ Below w.heap.size w w' := by
  obtain ⟨A, hA, hB, hs, hn⟩ := one_box x w
  have HN : Hid (Node A w.heap.size 0 x) := hn
  obtain ⟨a0, a1, a2, a3, a4, a5, a6⟩ := hn.at0
  have HB : Hid (Below w.heap.size w A) := hB
  have CM : Hid (Calls Tryz.prog 20 _ A _) := made_any p m A (h.later hB).box
  have CC : Hid (∀ d, Below w.heap.size w d → Calls Tryz.prog 21 _ d _) := fun d hd => checkX_any x d (hX.later hd)
  have CK : Hid (∀ d, Below w.heap.size w d → x.size ≤ 100 → TreeR x → KindC (ptrV p) N T x (kindE (lookS n V S) x).1 (kindE (lookS n V S) x).2 d) := fun d hd h1 h2 => kindT_any (ptrV p) N T (lookS n V S) x d (hX.later hd) h2 (by omega) (hS.later hd) fun d' h' => fieldC_any p m n V S N T d' (h.later (bt hd h')) (hS.later (bt hd h'))
  have CE : Hid (∀ d, Below w.heap.size w d → ∀ e v, ErrIs N T e v → Calls Tryz.prog 23 #[v] d fun r w' => r = .returned (.int .i64 e) ∧ Below d.heap.size d w') := fun d hd e v he => errno_any N T e v d (hS.later hd) he
  clear hB hn h hS hX
  go_enter Tryz.func7, Tryz.ntmps7
  go_wp2_with (first
    | (go_at_call 20; refine CM.out.mono ?_; rintro e w2 ⟨rfl, hB2⟩; obtain ⟨b0, b1, b2, b3, b4, b5, b6⟩ := (HN.out.later hB2).at0)
    | (go_at_call 22; refine (CK.out _ (bt (bt HB.out hB2) hB3) q1 q2).mono ?_; rintro e w4 ⟨v, rfl, he, hB4⟩; have HE : Hid (ErrIs N T _ v) := he; clear he)
    | (go_at_call 23; refine (CE.out _ (bt (bt (bt HB.out hB2) hB3) hB4) _ _ HE.out).mono ?_; rintro e w5 ⟨rfl, hB5⟩)
    | (go_at_call 21; refine (CC.out _ (bt HB.out hB2)).mono ?_; rintro e w3 ⟨r, rfl, hr, hB3⟩; obtain ⟨c0, c1, c2, c3, c4, c5, c6⟩ := (HN.out.later (bt hB2 hB3)).at0; rcases hr with ⟨q1, rfl⟩ | ⟨q1, q2, rfl⟩ | ⟨q1, q2, rfl⟩))
  · exact bodyPost_ret (v := .tuple #[.int .i64 0, .int .i64 1]) (by simp [results, Tryz.results7, go_sem]) rfl ⟨0, 1, rfl, .inr ⟨fun h => by omega, rfl, rfl⟩, bt (bt HB.out hB2) hB3⟩
  · exact bodyPost_ret (v := .tuple #[.int .i64 (kindE (lookS n V S) x).1, .int .i64 (kindE (lookS n V S) x).2]) (by simp [results, Tryz.results7, go_sem]) rfl ⟨_, _, rfl, .inl ⟨q1, q2, rfl, rfl⟩, bt (bt (bt (bt HB.out hB2) hB3) hB4) hB5⟩
  · exact bodyPost_ret (v := .tuple #[.int .i64 0, .int .i64 1]) (by simp [results, Tryz.results7, go_sem]) rfl ⟨0, 1, rfl, .inr ⟨fun h => q2 h.2, rfl, rfl⟩, bt (bt HB.out hB2) hB3⟩
def condZ (K E : Int) : Int := if E = 0 ∧ ¬ K = 1 then 5 else E
set_option maxRecDepth 100000 in
set_option maxHeartbeats 2000000 in
theorem cond_calls (nv : Value) (R : Int → Int → Prop) (x : X) (w : World) (CK : ∀ d, Below w.heap.size w d → Calls Tryz.prog 7 #[nv, x.val] d fun e w' => ∃ K E, e = .returned (.tuple #[.int .i64 K, .int .i64 E]) ∧ R K E ∧ Below d.heap.size d w') :
    Calls Tryz.prog 11 #[nv, x.val] w fun e w' => ∃ K E, e = .returned (.int .i64 (condZ K E)) ∧ R K E ∧ Below w.heap.size w w' := by
  obtain ⟨A, hA, hB, hs, hn⟩ := one_box x w
  obtain ⟨a0, a1, a2, a3, a4, a5, a6⟩ := hn.at0
  have HB : Hid (Below w.heap.size w A) := hB
  have C : Hid (Calls Tryz.prog 7 _ A _) := CK A hB
  clear hB hn CK
  go_enter Tryz.func11, Tryz.ntmps11
  go_wp2_with (first | (go_at_call 7; refine C.out.mono ?_; rintro e w2 ⟨K, E, rfl, hr, hB2⟩; have HR : Hid (R K E) := hr; clear hr; by_cases q1 : E = 0))
  · rename_i h
    go_ret
    exact ⟨K, E, by simp at h; simp [condZ, q1, h], HR.out, bt HB.out hB2⟩
  · rename_i h
    go_ret
    exact ⟨K, E, by simp at h; simp [condZ, q1, h], HR.out, bt HB.out hB2⟩
  · go_ret
    exact ⟨K, E, by simp [condZ, q1], HR.out, bt HB.out hB2⟩
set_option maxRecDepth 100000 in
set_option maxHeartbeats 2000000 in
theorem type_calls (p m n : Nat) (V : Nat → ByteArray) (S : Nat → Sch) (s : ByteArray) (w : World) (h : NamesIn w p m n V S) (hs : s.size ≤ maxLen) : Calls Tryz.prog 9 #[ptrV p, .string s] w fun e w' => e = .returned (.tuple #[.string (match idx V s n with | some i => (S i).nm | none => ⟨#[]⟩), .bool (idx V s n).isSome]) ∧ Below w.heap.size w w' := by
  have CM : Hid (Calls Tryz.prog 20 _ w _) := made_any p m w h.box
  have HL : Hid (∀ d, Below w.heap.size w d → _ ∧ _) := fun d hd => And.intro ((h.later hd).look_ok s hs) (h.later hd).box
  unfold atV at HL
  clear h
  cases e : idx V s n with
  | none =>
    rw [e] at HL
    clear e
    go_enter Tryz.func9, Tryz.ntmps9
    go_wp2_with (first | (go_at_call 20; refine CM.out.mono ?_; rintro e w2 ⟨rfl, hB2⟩; obtain ⟨hl, hb⟩ := HL.out _ hB2))
    exact bodyPost_ret (v := .tuple #[.string ⟨#[]⟩, .bool false]) (by simp [results, Tryz.results9, go_sem]) rfl ⟨rfl, bt hB2 ((Below.refl _ _).alloc (Nat.le_refl _) _)⟩
  | some i =>
    rw [e] at HL
    clear e
    go_enter Tryz.func9, Tryz.ntmps9
    go_wp2_with (first | (go_at_call 20; refine CM.out.mono ?_; rintro e w2 ⟨rfl, hB2⟩; obtain ⟨hl, hb⟩ := HL.out _ hB2))
    exact bodyPost_ret (v := .tuple #[.string (S i).nm, .bool true]) (by simp [results, Tryz.results9, go_sem]) rfl ⟨rfl, bt hB2 ((Below.refl _ _).alloc (Nat.le_refl _) _)⟩
end Go.Proofs.YtahlmlbfgijcpaaGreatDoor
