/-
  expr.right at a node, kind by kind.
  expr.right at a node that has parts.
  expr.right at a node that has parts.
  expr.right at a node that has parts.
-/
import Derived.Test.YtfnfegcjgnbgbaaGreatDoorTExprKinds
namespace Go.Proofs.YtfnfegcjgnbgbaaGreatDoor
open Go.RowKit

/-- The world in which expr.right has its own two boxes. -/
abbrev two1 (w : World) (b o : Nat) (q : X) : World := (w.alloc (.cells #[.pointer (some ⟨b, o, none⟩)] 123)).alloc (.cells q.cells 51)
theorem two1_facts (w : World) (b o : Nat) (y q : X) (h : Node w b o y) : Boxed (two1 w b o q) w.heap.size 123 (.pointer (some ⟨b, o, none⟩)) ∧ Node (two1 w b o q) b o y ∧ Node (two1 w b o q) (w.heap.size + 1) 0 q ∧ Below w.heap.size w (two1 w b o q) := by
  have hB : Below w.heap.size w (two1 w b o q) := ((Below.refl _ w).alloc (Nat.le_refl _) _).alloc (by simp) _
  refine ⟨(Boxed.new w _ _).alloc _, h.later hB, ?_, hB⟩
  have := node_new (w.alloc (.cells #[.pointer (some ⟨b, o, none⟩)] 123)) 51 q
  rwa [World.size_alloc] at this
/-- What has been drawn is nothing that Below asks. -/
theorem undrawn {V E w2 : World} (h : Below V.heap.size V w2) (e1 : V.os = E.os) (e2 : V.tape = E.tape) (e3 : V.output = E.output) (e4 : V.heap = E.heap) : Below E.heap.size E w2 :=
  ⟨h.os.trans e1, h.tape.trans e2, h.output.trans e3, by rw [← e4]; exact h.size, fun k hk => by rw [← e4] at hk ⊢; exact h.block k hk⟩
theorem on_box {E w2 : World} {B : Nat} {t : TypeId} {v : Value} (h : Boxed E B t v) (hB : Below E.heap.size E w2) : Boxed w2 B t v := Boxed.kept_of h hB h.lt
set_option maxRecDepth 100000 in
set_option maxHeartbeats 2000000 in
theorem right_C_true (b o : Nat) (y : X) (w : World) (hN : Node w b o y) (hk : y.k = 1) (hr : rightB y.v.k y.v.n y.v.s = true) :
    Calls Tryz.prog 89 #[.pointer (some ⟨b, o, none⟩)] w fun e w' => e = .returned (.bool (alZ y (X.mk 1 y.v ⟨#[]⟩ ⟨#[]⟩ none 0 0 (fun _ => .nil)) == 0)) ∧ Below w.heap.size w w' := by
  have hE : Hid (∀ q : X, Boxed (two1 w b o q) w.heap.size 123 (.pointer (some ⟨b, o, none⟩)) ∧ Node (two1 w b o q) b o y ∧ Node (two1 w b o q) (w.heap.size + 1) 0 q ∧ Below w.heap.size w (two1 w b o q)) := fun q => two1_facts w b o y q hN
  have one : ∀ o1 : Obj, Node (w.alloc o1) b o y := fun o1 => hN.later ((Below.refl _ w).alloc (Nat.le_refl _) _)
  have cells : ∀ o1 o2 : Obj, Node ((w.alloc o1).alloc o2) b o y := fun o1 o2 => hN.later (((Below.refl _ w).alloc (Nat.le_refl _) _).alloc (by simp) _)
  have a0 : ∀ o1 : Obj, (w.alloc o1).cell? ⟨b, o, none⟩ = some (.int .i64 1) := fun o1 => by rw [← hk]; exact (one o1).1
  have a6 : ∀ o1 : Obj, (w.alloc o1).cell? ⟨b, o + 6, none⟩ = some (.slice y.a y.n y.cap) := fun o1 => (one o1).2.2.2.2.2.2
  have c0 : ∀ o1 o2 : Obj, ((w.alloc o1).alloc o2).cell? ⟨b, o, none⟩ = some (.int .i64 1) := fun o1 o2 => by rw [← hk]; exact (cells o1 o2).1
  have c1 : ∀ o1 o2 : Obj, ((w.alloc o1).alloc o2).cell? ⟨b, o + 1, none⟩ = some (.int .i64 y.v.k) := fun o1 o2 => (cells o1 o2).2.1
  have c2 : ∀ o1 o2 : Obj, ((w.alloc o1).alloc o2).cell? ⟨b, o + 2, none⟩ = some (.int .i64 y.v.n) := fun o1 o2 => (cells o1 o2).2.2.1
  have c3 : ∀ o1 o2 : Obj, ((w.alloc o1).alloc o2).cell? ⟨b, o + 3, none⟩ = some (.string y.v.s) := fun o1 o2 => (cells o1 o2).2.2.2.1
  have c6 : ∀ o1 o2 : Obj, ((w.alloc o1).alloc o2).cell? ⟨b, o + 6, none⟩ = some (.slice y.a y.n y.cap) := fun o1 o2 => (cells o1 o2).2.2.2.2.2.2
  have hB6 : Hid True := trivial
  have hR : Hid (∀ d, Calls Tryz.prog 102 #[valV y.v.k y.v.n y.v.s] d fun e w' => e = .returned (.bool true) ∧ Below d.heap.size d w') := fun d => by have := right_any y.v.k y.v.n y.v.s d; rw [hr] at this; exact this
  clear hr
  clear hN one cells hB6
  go_enter Tryz.func89, Tryz.ntmps89
  go_wp2_with fail
  go_region
  go_wp2_with fail
  go_region
  go_wp2_with (first
    | (go_at_call 102; refine (hR.out _).mono ?_; rintro e x1 ⟨rfl, hN1⟩; have hT1 : Below (two1 w b o (X.mk 1 y.v ⟨#[]⟩ ⟨#[]⟩ none 0 0 (fun _ => .nil))).heap.size (two1 w b o (X.mk 1 y.v ⟨#[]⟩ ⟨#[]⟩ none 0 0 (fun _ => .nil))) x1 := undrawn hN1 rfl rfl rfl rfl; clear hN1; have bx1 := (on_box (hE.out (X.mk 1 y.v ⟨#[]⟩ ⟨#[]⟩ none 0 0 (fun _ => .nil))).1 hT1).cell)
    | (go_at_call 104; refine (alone_any b o (w.heap.size + 1) 0 y (X.mk 1 y.v ⟨#[]⟩ ⟨#[]⟩ none 0 0 (fun _ => .nil)) _ ((hE.out (X.mk 1 y.v ⟨#[]⟩ ⟨#[]⟩ none 0 0 (fun _ => .nil))).2.1.later hT1) ((hE.out (X.mk 1 y.v ⟨#[]⟩ ⟨#[]⟩ none 0 0 (fun _ => .nil))).2.2.1.later hT1)).mono ?_; rintro e x9 ⟨rfl, hN9⟩))
  go_ret
  exact ⟨rfl, (hE.out (X.mk 1 y.v ⟨#[]⟩ ⟨#[]⟩ none 0 0 (fun _ => .nil))).2.2.2.trans ((hT1.trans (hN9.mono hT1.size)).mono (hE.out (X.mk 1 y.v ⟨#[]⟩ ⟨#[]⟩ none 0 0 (fun _ => .nil))).2.2.2.size)⟩
set_option maxRecDepth 100000 in
set_option maxHeartbeats 2000000 in
theorem right_C_false (b o : Nat) (y : X) (w : World) (hN : Node w b o y) (hk : y.k = 1) (hr : rightB y.v.k y.v.n y.v.s = false) :
    Calls Tryz.prog 89 #[.pointer (some ⟨b, o, none⟩)] w fun e w' => e = .returned (.bool false) ∧ Below w.heap.size w w' := by
  have hE : Hid (∀ q : X, Boxed (two1 w b o q) w.heap.size 123 (.pointer (some ⟨b, o, none⟩)) ∧ Node (two1 w b o q) b o y ∧ Node (two1 w b o q) (w.heap.size + 1) 0 q ∧ Below w.heap.size w (two1 w b o q)) := fun q => two1_facts w b o y q hN
  have one : ∀ o1 : Obj, Node (w.alloc o1) b o y := fun o1 => hN.later ((Below.refl _ w).alloc (Nat.le_refl _) _)
  have cells : ∀ o1 o2 : Obj, Node ((w.alloc o1).alloc o2) b o y := fun o1 o2 => hN.later (((Below.refl _ w).alloc (Nat.le_refl _) _).alloc (by simp) _)
  have a0 : ∀ o1 : Obj, (w.alloc o1).cell? ⟨b, o, none⟩ = some (.int .i64 1) := fun o1 => by rw [← hk]; exact (one o1).1
  have a6 : ∀ o1 : Obj, (w.alloc o1).cell? ⟨b, o + 6, none⟩ = some (.slice y.a y.n y.cap) := fun o1 => (one o1).2.2.2.2.2.2
  have c0 : ∀ o1 o2 : Obj, ((w.alloc o1).alloc o2).cell? ⟨b, o, none⟩ = some (.int .i64 1) := fun o1 o2 => by rw [← hk]; exact (cells o1 o2).1
  have c1 : ∀ o1 o2 : Obj, ((w.alloc o1).alloc o2).cell? ⟨b, o + 1, none⟩ = some (.int .i64 y.v.k) := fun o1 o2 => (cells o1 o2).2.1
  have c2 : ∀ o1 o2 : Obj, ((w.alloc o1).alloc o2).cell? ⟨b, o + 2, none⟩ = some (.int .i64 y.v.n) := fun o1 o2 => (cells o1 o2).2.2.1
  have c3 : ∀ o1 o2 : Obj, ((w.alloc o1).alloc o2).cell? ⟨b, o + 3, none⟩ = some (.string y.v.s) := fun o1 o2 => (cells o1 o2).2.2.2.1
  have c6 : ∀ o1 o2 : Obj, ((w.alloc o1).alloc o2).cell? ⟨b, o + 6, none⟩ = some (.slice y.a y.n y.cap) := fun o1 o2 => (cells o1 o2).2.2.2.2.2.2
  have hB6 : Hid True := trivial
  have hR : Hid (∀ d, Calls Tryz.prog 102 #[valV y.v.k y.v.n y.v.s] d fun e w' => e = .returned (.bool false) ∧ Below d.heap.size d w') := fun d => by have := right_any y.v.k y.v.n y.v.s d; rw [hr] at this; exact this
  clear hr
  clear hN one cells hB6
  go_enter Tryz.func89, Tryz.ntmps89
  go_wp2_with fail
  go_region
  go_wp2_with fail
  go_region
  go_wp2_with (first
    | (go_at_call 102; refine (hR.out _).mono ?_; rintro e x1 ⟨rfl, hN1⟩; have hT1 : Below (two1 w b o (X.mk 1 y.v ⟨#[]⟩ ⟨#[]⟩ none 0 0 (fun _ => .nil))).heap.size (two1 w b o (X.mk 1 y.v ⟨#[]⟩ ⟨#[]⟩ none 0 0 (fun _ => .nil))) x1 := undrawn hN1 rfl rfl rfl rfl; clear hN1; have bx1 := (on_box (hE.out (X.mk 1 y.v ⟨#[]⟩ ⟨#[]⟩ none 0 0 (fun _ => .nil))).1 hT1).cell))
  go_ret
  exact ⟨rfl, (hE.out (X.mk 1 y.v ⟨#[]⟩ ⟨#[]⟩ none 0 0 (fun _ => .nil))).2.2.2.trans (hT1.mono (hE.out (X.mk 1 y.v ⟨#[]⟩ ⟨#[]⟩ none 0 0 (fun _ => .nil))).2.2.2.size)⟩
set_option maxRecDepth 100000 in
set_option maxHeartbeats 2000000 in
theorem right_F_ttrue (b o : Nat) (y : X) (w : World) (hN : Node w b o y) (hk : y.k = 2) (h1 : nameB y.s = true) (h2 : nameB y.f = true) :
    Calls Tryz.prog 89 #[.pointer (some ⟨b, o, none⟩)] w fun e w' => e = .returned (.bool (alZ y (X.mk 2 val0 y.s y.f none 0 0 (fun _ => .nil)) == 0)) ∧ Below w.heap.size w w' := by
  have hE : Hid (∀ q : X, Boxed (two1 w b o q) w.heap.size 123 (.pointer (some ⟨b, o, none⟩)) ∧ Node (two1 w b o q) b o y ∧ Node (two1 w b o q) (w.heap.size + 1) 0 q ∧ Below w.heap.size w (two1 w b o q)) := fun q => two1_facts w b o y q hN
  have one : ∀ o1 : Obj, Node (w.alloc o1) b o y := fun o1 => hN.later ((Below.refl _ w).alloc (Nat.le_refl _) _)
  have cells : ∀ o1 o2 : Obj, Node ((w.alloc o1).alloc o2) b o y := fun o1 o2 => hN.later (((Below.refl _ w).alloc (Nat.le_refl _) _).alloc (by simp) _)
  have a0 : ∀ o1 : Obj, (w.alloc o1).cell? ⟨b, o, none⟩ = some (.int .i64 2) := fun o1 => by rw [← hk]; exact (one o1).1
  have a6 : ∀ o1 : Obj, (w.alloc o1).cell? ⟨b, o + 6, none⟩ = some (.slice y.a y.n y.cap) := fun o1 => (one o1).2.2.2.2.2.2
  have c0 : ∀ o1 o2 : Obj, ((w.alloc o1).alloc o2).cell? ⟨b, o, none⟩ = some (.int .i64 2) := fun o1 o2 => by rw [← hk]; exact (cells o1 o2).1
  have c4 : ∀ o1 o2 : Obj, ((w.alloc o1).alloc o2).cell? ⟨b, o + 4, none⟩ = some (.string y.s) := fun o1 o2 => (cells o1 o2).2.2.2.2.1
  have c5 : ∀ o1 o2 : Obj, ((w.alloc o1).alloc o2).cell? ⟨b, o + 5, none⟩ = some (.string y.f) := fun o1 o2 => (cells o1 o2).2.2.2.2.2.1
  have c6 : ∀ o1 o2 : Obj, ((w.alloc o1).alloc o2).cell? ⟨b, o + 6, none⟩ = some (.slice y.a y.n y.cap) := fun o1 o2 => (cells o1 o2).2.2.2.2.2.2
  have hB6 : Hid True := trivial
  have hR1 : Hid (∀ d, Calls Tryz.prog 72 #[.string y.s] d fun e w' => e = .returned (.bool true) ∧ Below d.heap.size d w') := fun d => by have := name_any y.s d; rw [h1] at this; exact this
  have hR2 : Hid (∀ d, Calls Tryz.prog 72 #[.string y.f] d fun e w' => e = .returned (.bool true) ∧ Below d.heap.size d w') := fun d => by have := name_any y.f d; rw [h2] at this; exact this
  clear h1 h2
  clear hN one cells hB6
  go_enter Tryz.func89, Tryz.ntmps89
  go_wp2_with fail
  go_region
  go_wp2_with fail
  go_region
  go_wp2_with (first
    | (go_at_call 72; refine (hR1.out _).mono ?_; rintro e x1 ⟨rfl, hN1⟩; have hT1 : Below (two1 w b o (X.mk 2 val0 y.s y.f none 0 0 (fun _ => .nil))).heap.size (two1 w b o (X.mk 2 val0 y.s y.f none 0 0 (fun _ => .nil))) x1 := undrawn hN1 rfl rfl rfl rfl; clear hN1; have bx1 := (on_box (hE.out (X.mk 2 val0 y.s y.f none 0 0 (fun _ => .nil))).1 hT1).cell; clear hR1; have n1 := ((hE.out (X.mk 2 val0 y.s y.f none 0 0 (fun _ => .nil))).2.1.later hT1).2.2.2.2.2.1)
    | (go_at_call 72; refine (hR2.out _).mono ?_; rintro e x2 ⟨rfl, hN2⟩; have hT2 := hT1.trans (hN2.mono hT1.size); clear hN2; have bx2 := (on_box (hE.out (X.mk 2 val0 y.s y.f none 0 0 (fun _ => .nil))).1 hT2).cell)
    | (go_at_call 104; refine (alone_any b o (w.heap.size + 1) 0 y (X.mk 2 val0 y.s y.f none 0 0 (fun _ => .nil)) _ ((hE.out (X.mk 2 val0 y.s y.f none 0 0 (fun _ => .nil))).2.1.later hT2) ((hE.out (X.mk 2 val0 y.s y.f none 0 0 (fun _ => .nil))).2.2.1.later hT2)).mono ?_; rintro e x9 ⟨rfl, hN9⟩))
  go_ret
  exact ⟨rfl, (hE.out (X.mk 2 val0 y.s y.f none 0 0 (fun _ => .nil))).2.2.2.trans ((hT2.trans (hN9.mono hT2.size)).mono (hE.out (X.mk 2 val0 y.s y.f none 0 0 (fun _ => .nil))).2.2.2.size)⟩
set_option maxRecDepth 100000 in
set_option maxHeartbeats 2000000 in
theorem right_F_tfalse (b o : Nat) (y : X) (w : World) (hN : Node w b o y) (hk : y.k = 2) (h1 : nameB y.s = true) (h2 : nameB y.f = false) :
    Calls Tryz.prog 89 #[.pointer (some ⟨b, o, none⟩)] w fun e w' => e = .returned (.bool false) ∧ Below w.heap.size w w' := by
  have hE : Hid (∀ q : X, Boxed (two1 w b o q) w.heap.size 123 (.pointer (some ⟨b, o, none⟩)) ∧ Node (two1 w b o q) b o y ∧ Node (two1 w b o q) (w.heap.size + 1) 0 q ∧ Below w.heap.size w (two1 w b o q)) := fun q => two1_facts w b o y q hN
  have one : ∀ o1 : Obj, Node (w.alloc o1) b o y := fun o1 => hN.later ((Below.refl _ w).alloc (Nat.le_refl _) _)
  have cells : ∀ o1 o2 : Obj, Node ((w.alloc o1).alloc o2) b o y := fun o1 o2 => hN.later (((Below.refl _ w).alloc (Nat.le_refl _) _).alloc (by simp) _)
  have a0 : ∀ o1 : Obj, (w.alloc o1).cell? ⟨b, o, none⟩ = some (.int .i64 2) := fun o1 => by rw [← hk]; exact (one o1).1
  have a6 : ∀ o1 : Obj, (w.alloc o1).cell? ⟨b, o + 6, none⟩ = some (.slice y.a y.n y.cap) := fun o1 => (one o1).2.2.2.2.2.2
  have c0 : ∀ o1 o2 : Obj, ((w.alloc o1).alloc o2).cell? ⟨b, o, none⟩ = some (.int .i64 2) := fun o1 o2 => by rw [← hk]; exact (cells o1 o2).1
  have c4 : ∀ o1 o2 : Obj, ((w.alloc o1).alloc o2).cell? ⟨b, o + 4, none⟩ = some (.string y.s) := fun o1 o2 => (cells o1 o2).2.2.2.2.1
  have c5 : ∀ o1 o2 : Obj, ((w.alloc o1).alloc o2).cell? ⟨b, o + 5, none⟩ = some (.string y.f) := fun o1 o2 => (cells o1 o2).2.2.2.2.2.1
  have c6 : ∀ o1 o2 : Obj, ((w.alloc o1).alloc o2).cell? ⟨b, o + 6, none⟩ = some (.slice y.a y.n y.cap) := fun o1 o2 => (cells o1 o2).2.2.2.2.2.2
  have hB6 : Hid True := trivial
  have hR1 : Hid (∀ d, Calls Tryz.prog 72 #[.string y.s] d fun e w' => e = .returned (.bool true) ∧ Below d.heap.size d w') := fun d => by have := name_any y.s d; rw [h1] at this; exact this
  have hR2 : Hid (∀ d, Calls Tryz.prog 72 #[.string y.f] d fun e w' => e = .returned (.bool false) ∧ Below d.heap.size d w') := fun d => by have := name_any y.f d; rw [h2] at this; exact this
  clear h1 h2
  clear hN one cells hB6
  go_enter Tryz.func89, Tryz.ntmps89
  go_wp2_with fail
  go_region
  go_wp2_with fail
  go_region
  go_wp2_with (first
    | (go_at_call 72; refine (hR1.out _).mono ?_; rintro e x1 ⟨rfl, hN1⟩; have hT1 : Below (two1 w b o (X.mk 2 val0 y.s y.f none 0 0 (fun _ => .nil))).heap.size (two1 w b o (X.mk 2 val0 y.s y.f none 0 0 (fun _ => .nil))) x1 := undrawn hN1 rfl rfl rfl rfl; clear hN1; have bx1 := (on_box (hE.out (X.mk 2 val0 y.s y.f none 0 0 (fun _ => .nil))).1 hT1).cell; clear hR1; have n1 := ((hE.out (X.mk 2 val0 y.s y.f none 0 0 (fun _ => .nil))).2.1.later hT1).2.2.2.2.2.1)
    | (go_at_call 72; refine (hR2.out _).mono ?_; rintro e x2 ⟨rfl, hN2⟩; have hT2 := hT1.trans (hN2.mono hT1.size); clear hN2; have bx2 := (on_box (hE.out (X.mk 2 val0 y.s y.f none 0 0 (fun _ => .nil))).1 hT2).cell))
  go_ret
  exact ⟨rfl, (hE.out (X.mk 2 val0 y.s y.f none 0 0 (fun _ => .nil))).2.2.2.trans (hT2.mono (hE.out (X.mk 2 val0 y.s y.f none 0 0 (fun _ => .nil))).2.2.2.size)⟩
set_option maxRecDepth 100000 in
set_option maxHeartbeats 2000000 in
theorem right_F_false (b o : Nat) (y : X) (w : World) (hN : Node w b o y) (hk : y.k = 2) (h1 : nameB y.s = false) :
    Calls Tryz.prog 89 #[.pointer (some ⟨b, o, none⟩)] w fun e w' => e = .returned (.bool false) ∧ Below w.heap.size w w' := by
  have hE : Hid (∀ q : X, Boxed (two1 w b o q) w.heap.size 123 (.pointer (some ⟨b, o, none⟩)) ∧ Node (two1 w b o q) b o y ∧ Node (two1 w b o q) (w.heap.size + 1) 0 q ∧ Below w.heap.size w (two1 w b o q)) := fun q => two1_facts w b o y q hN
  have one : ∀ o1 : Obj, Node (w.alloc o1) b o y := fun o1 => hN.later ((Below.refl _ w).alloc (Nat.le_refl _) _)
  have cells : ∀ o1 o2 : Obj, Node ((w.alloc o1).alloc o2) b o y := fun o1 o2 => hN.later (((Below.refl _ w).alloc (Nat.le_refl _) _).alloc (by simp) _)
  have a0 : ∀ o1 : Obj, (w.alloc o1).cell? ⟨b, o, none⟩ = some (.int .i64 2) := fun o1 => by rw [← hk]; exact (one o1).1
  have a6 : ∀ o1 : Obj, (w.alloc o1).cell? ⟨b, o + 6, none⟩ = some (.slice y.a y.n y.cap) := fun o1 => (one o1).2.2.2.2.2.2
  have c0 : ∀ o1 o2 : Obj, ((w.alloc o1).alloc o2).cell? ⟨b, o, none⟩ = some (.int .i64 2) := fun o1 o2 => by rw [← hk]; exact (cells o1 o2).1
  have c4 : ∀ o1 o2 : Obj, ((w.alloc o1).alloc o2).cell? ⟨b, o + 4, none⟩ = some (.string y.s) := fun o1 o2 => (cells o1 o2).2.2.2.2.1
  have c5 : ∀ o1 o2 : Obj, ((w.alloc o1).alloc o2).cell? ⟨b, o + 5, none⟩ = some (.string y.f) := fun o1 o2 => (cells o1 o2).2.2.2.2.2.1
  have c6 : ∀ o1 o2 : Obj, ((w.alloc o1).alloc o2).cell? ⟨b, o + 6, none⟩ = some (.slice y.a y.n y.cap) := fun o1 o2 => (cells o1 o2).2.2.2.2.2.2
  have hB6 : Hid True := trivial
  have hR1 : Hid (∀ d, Calls Tryz.prog 72 #[.string y.s] d fun e w' => e = .returned (.bool false) ∧ Below d.heap.size d w') := fun d => by have := name_any y.s d; rw [h1] at this; exact this
  clear h1
  clear hN one cells hB6
  go_enter Tryz.func89, Tryz.ntmps89
  go_wp2_with fail
  go_region
  go_wp2_with fail
  go_region
  go_wp2_with (first
    | (go_at_call 72; refine (hR1.out _).mono ?_; rintro e x1 ⟨rfl, hN1⟩; have hT1 : Below (two1 w b o (X.mk 2 val0 y.s y.f none 0 0 (fun _ => .nil))).heap.size (two1 w b o (X.mk 2 val0 y.s y.f none 0 0 (fun _ => .nil))) x1 := undrawn hN1 rfl rfl rfl rfl; clear hN1; have bx1 := (on_box (hE.out (X.mk 2 val0 y.s y.f none 0 0 (fun _ => .nil))).1 hT1).cell; clear hR1))
  go_ret
  exact ⟨rfl, (hE.out (X.mk 2 val0 y.s y.f none 0 0 (fun _ => .nil))).2.2.2.trans (hT1.mono (hE.out (X.mk 2 val0 y.s y.f none 0 0 (fun _ => .nil))).2.2.2.size)⟩
end Go.Proofs.YtfnfegcjgnbgbaaGreatDoor
namespace Go.Proofs.YtfnfegcjgnbgbaaGreatDoor
open Go.RowKit

set_option maxRecDepth 100000 in
set_option maxHeartbeats 2000000 in
theorem right_3_t (b o : Nat) (y : X) (w : World) (hN : Node w b o y) (hk : y.k = 3) (hn : y.n = 1) :
    Calls Tryz.prog 89 #[.pointer (some ⟨b, o, none⟩)] w fun e w' => e = .returned (.bool (alZ y (X.mk 3 val0 ⟨#[]⟩ ⟨#[]⟩ y.a y.n y.cap y.c) == 0)) ∧ Below w.heap.size w w' := by
  have hE : Hid (∀ q : X, Boxed (two1 w b o q) w.heap.size 123 (.pointer (some ⟨b, o, none⟩)) ∧ Node (two1 w b o q) b o y ∧ Node (two1 w b o q) (w.heap.size + 1) 0 q ∧ Below w.heap.size w (two1 w b o q)) := fun q => two1_facts w b o y q hN
  have one : ∀ o1 : Obj, Node (w.alloc o1) b o y := fun o1 => hN.later ((Below.refl _ w).alloc (Nat.le_refl _) _)
  have cells : ∀ o1 o2 : Obj, Node ((w.alloc o1).alloc o2) b o y := fun o1 o2 => hN.later (((Below.refl _ w).alloc (Nat.le_refl _) _).alloc (by simp) _)
  have a0 : ∀ o1 : Obj, (w.alloc o1).cell? ⟨b, o, none⟩ = some (.int .i64 3) := fun o1 => by rw [← hk]; exact (one o1).1
  have a6 : ∀ o1 : Obj, (w.alloc o1).cell? ⟨b, o + 6, none⟩ = some (.slice y.a y.n y.cap) := fun o1 => (one o1).2.2.2.2.2.2
  have c0 : ∀ o1 o2 : Obj, ((w.alloc o1).alloc o2).cell? ⟨b, o, none⟩ = some (.int .i64 3) := fun o1 o2 => by rw [← hk]; exact (cells o1 o2).1
  have c6 : ∀ o1 o2 : Obj, ((w.alloc o1).alloc o2).cell? ⟨b, o + 6, none⟩ = some (.slice y.a y.n y.cap) := fun o1 o2 => (cells o1 o2).2.2.2.2.2.2
  have hB6 : Hid True := trivial
  have hn' : ((y.n : Int) == 1) = true := by simp; omega
  clear hn
  clear hN one cells hB6
  go_enter Tryz.func89, Tryz.ntmps89
  go_wp2_with fail
  go_region
  go_wp2_with fail
  go_wp2_with (go_at_call 104; refine (alone_any b o (w.heap.size + 1) 0 y (X.mk 3 val0 ⟨#[]⟩ ⟨#[]⟩ y.a y.n y.cap y.c) (two1 w b o (X.mk 3 val0 ⟨#[]⟩ ⟨#[]⟩ y.a y.n y.cap y.c)).drew (hE.out (X.mk 3 val0 ⟨#[]⟩ ⟨#[]⟩ y.a y.n y.cap y.c)).2.1 (hE.out (X.mk 3 val0 ⟨#[]⟩ ⟨#[]⟩ y.a y.n y.cap y.c)).2.2.1).mono ?_; rintro e x9 ⟨rfl, hN9⟩)
  go_ret
  have hT9 : Below (two1 w b o (X.mk 3 val0 ⟨#[]⟩ ⟨#[]⟩ y.a y.n y.cap y.c)).heap.size (two1 w b o (X.mk 3 val0 ⟨#[]⟩ ⟨#[]⟩ y.a y.n y.cap y.c)) x9 := undrawn hN9 rfl rfl rfl rfl
  exact ⟨rfl, (hE.out (X.mk 3 val0 ⟨#[]⟩ ⟨#[]⟩ y.a y.n y.cap y.c)).2.2.2.trans (hT9.mono (hE.out (X.mk 3 val0 ⟨#[]⟩ ⟨#[]⟩ y.a y.n y.cap y.c)).2.2.2.size)⟩
set_option maxRecDepth 100000 in
set_option maxHeartbeats 2000000 in
theorem right_3_f (b o : Nat) (y : X) (w : World) (hN : Node w b o y) (hk : y.k = 3) (hn : ¬ y.n = 1) :
    Calls Tryz.prog 89 #[.pointer (some ⟨b, o, none⟩)] w fun e w' => e = .returned (.bool false) ∧ Below w.heap.size w w' := by
  have hE : Hid (∀ q : X, Boxed (two1 w b o q) w.heap.size 123 (.pointer (some ⟨b, o, none⟩)) ∧ Node (two1 w b o q) b o y ∧ Node (two1 w b o q) (w.heap.size + 1) 0 q ∧ Below w.heap.size w (two1 w b o q)) := fun q => two1_facts w b o y q hN
  have one : ∀ o1 : Obj, Node (w.alloc o1) b o y := fun o1 => hN.later ((Below.refl _ w).alloc (Nat.le_refl _) _)
  have cells : ∀ o1 o2 : Obj, Node ((w.alloc o1).alloc o2) b o y := fun o1 o2 => hN.later (((Below.refl _ w).alloc (Nat.le_refl _) _).alloc (by simp) _)
  have a0 : ∀ o1 : Obj, (w.alloc o1).cell? ⟨b, o, none⟩ = some (.int .i64 3) := fun o1 => by rw [← hk]; exact (one o1).1
  have a6 : ∀ o1 : Obj, (w.alloc o1).cell? ⟨b, o + 6, none⟩ = some (.slice y.a y.n y.cap) := fun o1 => (one o1).2.2.2.2.2.2
  have c0 : ∀ o1 o2 : Obj, ((w.alloc o1).alloc o2).cell? ⟨b, o, none⟩ = some (.int .i64 3) := fun o1 o2 => by rw [← hk]; exact (cells o1 o2).1
  have c6 : ∀ o1 o2 : Obj, ((w.alloc o1).alloc o2).cell? ⟨b, o + 6, none⟩ = some (.slice y.a y.n y.cap) := fun o1 o2 => (cells o1 o2).2.2.2.2.2.2
  have hB6 : Hid True := trivial
  have hn' : ((y.n : Int) == 1) = false := by simp; omega
  clear hn
  clear hN one cells hB6
  go_enter Tryz.func89, Tryz.ntmps89
  go_wp2_with fail
  go_region
  go_wp2_with fail
  go_wp2
  go_ret
  exact ⟨rfl, (hE.out (X.mk 3 val0 ⟨#[]⟩ ⟨#[]⟩ y.a y.n y.cap y.c)).2.2.2.drew⟩
set_option maxRecDepth 100000 in
set_option maxHeartbeats 2000000 in
theorem right_15_t (b o : Nat) (y : X) (w : World) (hN : Node w b o y) (hk : y.k = 15) (hn : y.n = 1) :
    Calls Tryz.prog 89 #[.pointer (some ⟨b, o, none⟩)] w fun e w' => e = .returned (.bool (alZ y (X.mk 15 val0 ⟨#[]⟩ ⟨#[]⟩ y.a y.n y.cap y.c) == 0)) ∧ Below w.heap.size w w' := by
  have hE : Hid (∀ q : X, Boxed (two1 w b o q) w.heap.size 123 (.pointer (some ⟨b, o, none⟩)) ∧ Node (two1 w b o q) b o y ∧ Node (two1 w b o q) (w.heap.size + 1) 0 q ∧ Below w.heap.size w (two1 w b o q)) := fun q => two1_facts w b o y q hN
  have one : ∀ o1 : Obj, Node (w.alloc o1) b o y := fun o1 => hN.later ((Below.refl _ w).alloc (Nat.le_refl _) _)
  have cells : ∀ o1 o2 : Obj, Node ((w.alloc o1).alloc o2) b o y := fun o1 o2 => hN.later (((Below.refl _ w).alloc (Nat.le_refl _) _).alloc (by simp) _)
  have a0 : ∀ o1 : Obj, (w.alloc o1).cell? ⟨b, o, none⟩ = some (.int .i64 15) := fun o1 => by rw [← hk]; exact (one o1).1
  have a6 : ∀ o1 : Obj, (w.alloc o1).cell? ⟨b, o + 6, none⟩ = some (.slice y.a y.n y.cap) := fun o1 => (one o1).2.2.2.2.2.2
  have c0 : ∀ o1 o2 : Obj, ((w.alloc o1).alloc o2).cell? ⟨b, o, none⟩ = some (.int .i64 15) := fun o1 o2 => by rw [← hk]; exact (cells o1 o2).1
  have c6 : ∀ o1 o2 : Obj, ((w.alloc o1).alloc o2).cell? ⟨b, o + 6, none⟩ = some (.slice y.a y.n y.cap) := fun o1 o2 => (cells o1 o2).2.2.2.2.2.2
  have hB6 : Hid True := trivial
  have hn' : ((y.n : Int) == 1) = true := by simp; omega
  clear hn
  clear hN one cells hB6
  go_enter Tryz.func89, Tryz.ntmps89
  go_wp2_with fail
  go_region
  go_wp2_with fail
  go_wp2_with (go_at_call 104; refine (alone_any b o (w.heap.size + 1) 0 y (X.mk 15 val0 ⟨#[]⟩ ⟨#[]⟩ y.a y.n y.cap y.c) (two1 w b o (X.mk 15 val0 ⟨#[]⟩ ⟨#[]⟩ y.a y.n y.cap y.c)).drew (hE.out (X.mk 15 val0 ⟨#[]⟩ ⟨#[]⟩ y.a y.n y.cap y.c)).2.1 (hE.out (X.mk 15 val0 ⟨#[]⟩ ⟨#[]⟩ y.a y.n y.cap y.c)).2.2.1).mono ?_; rintro e x9 ⟨rfl, hN9⟩)
  go_ret
  have hT9 : Below (two1 w b o (X.mk 15 val0 ⟨#[]⟩ ⟨#[]⟩ y.a y.n y.cap y.c)).heap.size (two1 w b o (X.mk 15 val0 ⟨#[]⟩ ⟨#[]⟩ y.a y.n y.cap y.c)) x9 := undrawn hN9 rfl rfl rfl rfl
  exact ⟨rfl, (hE.out (X.mk 15 val0 ⟨#[]⟩ ⟨#[]⟩ y.a y.n y.cap y.c)).2.2.2.trans (hT9.mono (hE.out (X.mk 15 val0 ⟨#[]⟩ ⟨#[]⟩ y.a y.n y.cap y.c)).2.2.2.size)⟩
set_option maxRecDepth 100000 in
set_option maxHeartbeats 2000000 in
theorem right_15_f (b o : Nat) (y : X) (w : World) (hN : Node w b o y) (hk : y.k = 15) (hn : ¬ y.n = 1) :
    Calls Tryz.prog 89 #[.pointer (some ⟨b, o, none⟩)] w fun e w' => e = .returned (.bool false) ∧ Below w.heap.size w w' := by
  have hE : Hid (∀ q : X, Boxed (two1 w b o q) w.heap.size 123 (.pointer (some ⟨b, o, none⟩)) ∧ Node (two1 w b o q) b o y ∧ Node (two1 w b o q) (w.heap.size + 1) 0 q ∧ Below w.heap.size w (two1 w b o q)) := fun q => two1_facts w b o y q hN
  have one : ∀ o1 : Obj, Node (w.alloc o1) b o y := fun o1 => hN.later ((Below.refl _ w).alloc (Nat.le_refl _) _)
  have cells : ∀ o1 o2 : Obj, Node ((w.alloc o1).alloc o2) b o y := fun o1 o2 => hN.later (((Below.refl _ w).alloc (Nat.le_refl _) _).alloc (by simp) _)
  have a0 : ∀ o1 : Obj, (w.alloc o1).cell? ⟨b, o, none⟩ = some (.int .i64 15) := fun o1 => by rw [← hk]; exact (one o1).1
  have a6 : ∀ o1 : Obj, (w.alloc o1).cell? ⟨b, o + 6, none⟩ = some (.slice y.a y.n y.cap) := fun o1 => (one o1).2.2.2.2.2.2
  have c0 : ∀ o1 o2 : Obj, ((w.alloc o1).alloc o2).cell? ⟨b, o, none⟩ = some (.int .i64 15) := fun o1 o2 => by rw [← hk]; exact (cells o1 o2).1
  have c6 : ∀ o1 o2 : Obj, ((w.alloc o1).alloc o2).cell? ⟨b, o + 6, none⟩ = some (.slice y.a y.n y.cap) := fun o1 o2 => (cells o1 o2).2.2.2.2.2.2
  have hB6 : Hid True := trivial
  have hn' : ((y.n : Int) == 1) = false := by simp; omega
  clear hn
  clear hN one cells hB6
  go_enter Tryz.func89, Tryz.ntmps89
  go_wp2_with fail
  go_region
  go_wp2_with fail
  go_wp2
  go_ret
  exact ⟨rfl, (hE.out (X.mk 15 val0 ⟨#[]⟩ ⟨#[]⟩ y.a y.n y.cap y.c)).2.2.2.drew⟩
set_option maxRecDepth 100000 in
set_option maxHeartbeats 2000000 in
theorem right_4_t (b o : Nat) (y : X) (w : World) (hN : Node w b o y) (hk : y.k = 4) (hn : y.n = 2) :
    Calls Tryz.prog 89 #[.pointer (some ⟨b, o, none⟩)] w fun e w' => e = .returned (.bool (alZ y (X.mk 4 val0 ⟨#[]⟩ ⟨#[]⟩ y.a y.n y.cap y.c) == 0)) ∧ Below w.heap.size w w' := by
  have hE : Hid (∀ q : X, Boxed (two1 w b o q) w.heap.size 123 (.pointer (some ⟨b, o, none⟩)) ∧ Node (two1 w b o q) b o y ∧ Node (two1 w b o q) (w.heap.size + 1) 0 q ∧ Below w.heap.size w (two1 w b o q)) := fun q => two1_facts w b o y q hN
  have one : ∀ o1 : Obj, Node (w.alloc o1) b o y := fun o1 => hN.later ((Below.refl _ w).alloc (Nat.le_refl _) _)
  have cells : ∀ o1 o2 : Obj, Node ((w.alloc o1).alloc o2) b o y := fun o1 o2 => hN.later (((Below.refl _ w).alloc (Nat.le_refl _) _).alloc (by simp) _)
  have a0 : ∀ o1 : Obj, (w.alloc o1).cell? ⟨b, o, none⟩ = some (.int .i64 4) := fun o1 => by rw [← hk]; exact (one o1).1
  have a6 : ∀ o1 : Obj, (w.alloc o1).cell? ⟨b, o + 6, none⟩ = some (.slice y.a y.n y.cap) := fun o1 => (one o1).2.2.2.2.2.2
  have c0 : ∀ o1 o2 : Obj, ((w.alloc o1).alloc o2).cell? ⟨b, o, none⟩ = some (.int .i64 4) := fun o1 o2 => by rw [← hk]; exact (cells o1 o2).1
  have c6 : ∀ o1 o2 : Obj, ((w.alloc o1).alloc o2).cell? ⟨b, o + 6, none⟩ = some (.slice y.a y.n y.cap) := fun o1 o2 => (cells o1 o2).2.2.2.2.2.2
  have hB6 : Hid True := trivial
  have hn' : ((y.n : Int) == 2) = true := by simp; omega
  clear hn
  clear hN one cells hB6
  go_enter Tryz.func89, Tryz.ntmps89
  go_wp2_with fail
  go_region
  go_wp2_with fail
  go_wp2_with (go_at_call 104; refine (alone_any b o (w.heap.size + 1) 0 y (X.mk 4 val0 ⟨#[]⟩ ⟨#[]⟩ y.a y.n y.cap y.c) (two1 w b o (X.mk 4 val0 ⟨#[]⟩ ⟨#[]⟩ y.a y.n y.cap y.c)).drew (hE.out (X.mk 4 val0 ⟨#[]⟩ ⟨#[]⟩ y.a y.n y.cap y.c)).2.1 (hE.out (X.mk 4 val0 ⟨#[]⟩ ⟨#[]⟩ y.a y.n y.cap y.c)).2.2.1).mono ?_; rintro e x9 ⟨rfl, hN9⟩)
  go_ret
  have hT9 : Below (two1 w b o (X.mk 4 val0 ⟨#[]⟩ ⟨#[]⟩ y.a y.n y.cap y.c)).heap.size (two1 w b o (X.mk 4 val0 ⟨#[]⟩ ⟨#[]⟩ y.a y.n y.cap y.c)) x9 := undrawn hN9 rfl rfl rfl rfl
  exact ⟨rfl, (hE.out (X.mk 4 val0 ⟨#[]⟩ ⟨#[]⟩ y.a y.n y.cap y.c)).2.2.2.trans (hT9.mono (hE.out (X.mk 4 val0 ⟨#[]⟩ ⟨#[]⟩ y.a y.n y.cap y.c)).2.2.2.size)⟩
set_option maxRecDepth 100000 in
set_option maxHeartbeats 2000000 in
theorem right_4_f (b o : Nat) (y : X) (w : World) (hN : Node w b o y) (hk : y.k = 4) (hn : ¬ y.n = 2) :
    Calls Tryz.prog 89 #[.pointer (some ⟨b, o, none⟩)] w fun e w' => e = .returned (.bool false) ∧ Below w.heap.size w w' := by
  have hE : Hid (∀ q : X, Boxed (two1 w b o q) w.heap.size 123 (.pointer (some ⟨b, o, none⟩)) ∧ Node (two1 w b o q) b o y ∧ Node (two1 w b o q) (w.heap.size + 1) 0 q ∧ Below w.heap.size w (two1 w b o q)) := fun q => two1_facts w b o y q hN
  have one : ∀ o1 : Obj, Node (w.alloc o1) b o y := fun o1 => hN.later ((Below.refl _ w).alloc (Nat.le_refl _) _)
  have cells : ∀ o1 o2 : Obj, Node ((w.alloc o1).alloc o2) b o y := fun o1 o2 => hN.later (((Below.refl _ w).alloc (Nat.le_refl _) _).alloc (by simp) _)
  have a0 : ∀ o1 : Obj, (w.alloc o1).cell? ⟨b, o, none⟩ = some (.int .i64 4) := fun o1 => by rw [← hk]; exact (one o1).1
  have a6 : ∀ o1 : Obj, (w.alloc o1).cell? ⟨b, o + 6, none⟩ = some (.slice y.a y.n y.cap) := fun o1 => (one o1).2.2.2.2.2.2
  have c0 : ∀ o1 o2 : Obj, ((w.alloc o1).alloc o2).cell? ⟨b, o, none⟩ = some (.int .i64 4) := fun o1 o2 => by rw [← hk]; exact (cells o1 o2).1
  have c6 : ∀ o1 o2 : Obj, ((w.alloc o1).alloc o2).cell? ⟨b, o + 6, none⟩ = some (.slice y.a y.n y.cap) := fun o1 o2 => (cells o1 o2).2.2.2.2.2.2
  have hB6 : Hid True := trivial
  have hn' : ((y.n : Int) == 2) = false := by simp; omega
  clear hn
  clear hN one cells hB6
  go_enter Tryz.func89, Tryz.ntmps89
  go_wp2_with fail
  go_region
  go_wp2_with fail
  go_wp2
  go_ret
  exact ⟨rfl, (hE.out (X.mk 4 val0 ⟨#[]⟩ ⟨#[]⟩ y.a y.n y.cap y.c)).2.2.2.drew⟩
end Go.Proofs.YtfnfegcjgnbgbaaGreatDoor
namespace Go.Proofs.YtfnfegcjgnbgbaaGreatDoor
open Go.RowKit

set_option maxRecDepth 100000 in
set_option maxHeartbeats 2000000 in
theorem right_5_t (b o : Nat) (y : X) (w : World) (hN : Node w b o y) (hk : y.k = 5) (hn : y.n = 2) :
    Calls Tryz.prog 89 #[.pointer (some ⟨b, o, none⟩)] w fun e w' => e = .returned (.bool (alZ y (X.mk 5 val0 ⟨#[]⟩ ⟨#[]⟩ y.a y.n y.cap y.c) == 0)) ∧ Below w.heap.size w w' := by
  have hE : Hid (∀ q : X, Boxed (two1 w b o q) w.heap.size 123 (.pointer (some ⟨b, o, none⟩)) ∧ Node (two1 w b o q) b o y ∧ Node (two1 w b o q) (w.heap.size + 1) 0 q ∧ Below w.heap.size w (two1 w b o q)) := fun q => two1_facts w b o y q hN
  have one : ∀ o1 : Obj, Node (w.alloc o1) b o y := fun o1 => hN.later ((Below.refl _ w).alloc (Nat.le_refl _) _)
  have cells : ∀ o1 o2 : Obj, Node ((w.alloc o1).alloc o2) b o y := fun o1 o2 => hN.later (((Below.refl _ w).alloc (Nat.le_refl _) _).alloc (by simp) _)
  have a0 : ∀ o1 : Obj, (w.alloc o1).cell? ⟨b, o, none⟩ = some (.int .i64 5) := fun o1 => by rw [← hk]; exact (one o1).1
  have a6 : ∀ o1 : Obj, (w.alloc o1).cell? ⟨b, o + 6, none⟩ = some (.slice y.a y.n y.cap) := fun o1 => (one o1).2.2.2.2.2.2
  have c0 : ∀ o1 o2 : Obj, ((w.alloc o1).alloc o2).cell? ⟨b, o, none⟩ = some (.int .i64 5) := fun o1 o2 => by rw [← hk]; exact (cells o1 o2).1
  have c6 : ∀ o1 o2 : Obj, ((w.alloc o1).alloc o2).cell? ⟨b, o + 6, none⟩ = some (.slice y.a y.n y.cap) := fun o1 o2 => (cells o1 o2).2.2.2.2.2.2
  have hB6 : Hid True := trivial
  have hn' : ((y.n : Int) == 2) = true := by simp; omega
  clear hn
  clear hN one cells hB6
  go_enter Tryz.func89, Tryz.ntmps89
  go_wp2_with fail
  go_region
  go_wp2_with fail
  go_wp2_with (go_at_call 104; refine (alone_any b o (w.heap.size + 1) 0 y (X.mk 5 val0 ⟨#[]⟩ ⟨#[]⟩ y.a y.n y.cap y.c) (two1 w b o (X.mk 5 val0 ⟨#[]⟩ ⟨#[]⟩ y.a y.n y.cap y.c)).drew (hE.out (X.mk 5 val0 ⟨#[]⟩ ⟨#[]⟩ y.a y.n y.cap y.c)).2.1 (hE.out (X.mk 5 val0 ⟨#[]⟩ ⟨#[]⟩ y.a y.n y.cap y.c)).2.2.1).mono ?_; rintro e x9 ⟨rfl, hN9⟩)
  go_ret
  have hT9 : Below (two1 w b o (X.mk 5 val0 ⟨#[]⟩ ⟨#[]⟩ y.a y.n y.cap y.c)).heap.size (two1 w b o (X.mk 5 val0 ⟨#[]⟩ ⟨#[]⟩ y.a y.n y.cap y.c)) x9 := undrawn hN9 rfl rfl rfl rfl
  exact ⟨rfl, (hE.out (X.mk 5 val0 ⟨#[]⟩ ⟨#[]⟩ y.a y.n y.cap y.c)).2.2.2.trans (hT9.mono (hE.out (X.mk 5 val0 ⟨#[]⟩ ⟨#[]⟩ y.a y.n y.cap y.c)).2.2.2.size)⟩
set_option maxRecDepth 100000 in
set_option maxHeartbeats 2000000 in
theorem right_5_f (b o : Nat) (y : X) (w : World) (hN : Node w b o y) (hk : y.k = 5) (hn : ¬ y.n = 2) :
    Calls Tryz.prog 89 #[.pointer (some ⟨b, o, none⟩)] w fun e w' => e = .returned (.bool false) ∧ Below w.heap.size w w' := by
  have hE : Hid (∀ q : X, Boxed (two1 w b o q) w.heap.size 123 (.pointer (some ⟨b, o, none⟩)) ∧ Node (two1 w b o q) b o y ∧ Node (two1 w b o q) (w.heap.size + 1) 0 q ∧ Below w.heap.size w (two1 w b o q)) := fun q => two1_facts w b o y q hN
  have one : ∀ o1 : Obj, Node (w.alloc o1) b o y := fun o1 => hN.later ((Below.refl _ w).alloc (Nat.le_refl _) _)
  have cells : ∀ o1 o2 : Obj, Node ((w.alloc o1).alloc o2) b o y := fun o1 o2 => hN.later (((Below.refl _ w).alloc (Nat.le_refl _) _).alloc (by simp) _)
  have a0 : ∀ o1 : Obj, (w.alloc o1).cell? ⟨b, o, none⟩ = some (.int .i64 5) := fun o1 => by rw [← hk]; exact (one o1).1
  have a6 : ∀ o1 : Obj, (w.alloc o1).cell? ⟨b, o + 6, none⟩ = some (.slice y.a y.n y.cap) := fun o1 => (one o1).2.2.2.2.2.2
  have c0 : ∀ o1 o2 : Obj, ((w.alloc o1).alloc o2).cell? ⟨b, o, none⟩ = some (.int .i64 5) := fun o1 o2 => by rw [← hk]; exact (cells o1 o2).1
  have c6 : ∀ o1 o2 : Obj, ((w.alloc o1).alloc o2).cell? ⟨b, o + 6, none⟩ = some (.slice y.a y.n y.cap) := fun o1 o2 => (cells o1 o2).2.2.2.2.2.2
  have hB6 : Hid True := trivial
  have hn' : ((y.n : Int) == 2) = false := by simp; omega
  clear hn
  clear hN one cells hB6
  go_enter Tryz.func89, Tryz.ntmps89
  go_wp2_with fail
  go_region
  go_wp2_with fail
  go_wp2
  go_ret
  exact ⟨rfl, (hE.out (X.mk 5 val0 ⟨#[]⟩ ⟨#[]⟩ y.a y.n y.cap y.c)).2.2.2.drew⟩
set_option maxRecDepth 100000 in
set_option maxHeartbeats 2000000 in
theorem right_6_t (b o : Nat) (y : X) (w : World) (hN : Node w b o y) (hk : y.k = 6) (hn : y.n = 2) :
    Calls Tryz.prog 89 #[.pointer (some ⟨b, o, none⟩)] w fun e w' => e = .returned (.bool (alZ y (X.mk 6 val0 ⟨#[]⟩ ⟨#[]⟩ y.a y.n y.cap y.c) == 0)) ∧ Below w.heap.size w w' := by
  have hE : Hid (∀ q : X, Boxed (two1 w b o q) w.heap.size 123 (.pointer (some ⟨b, o, none⟩)) ∧ Node (two1 w b o q) b o y ∧ Node (two1 w b o q) (w.heap.size + 1) 0 q ∧ Below w.heap.size w (two1 w b o q)) := fun q => two1_facts w b o y q hN
  have one : ∀ o1 : Obj, Node (w.alloc o1) b o y := fun o1 => hN.later ((Below.refl _ w).alloc (Nat.le_refl _) _)
  have cells : ∀ o1 o2 : Obj, Node ((w.alloc o1).alloc o2) b o y := fun o1 o2 => hN.later (((Below.refl _ w).alloc (Nat.le_refl _) _).alloc (by simp) _)
  have a0 : ∀ o1 : Obj, (w.alloc o1).cell? ⟨b, o, none⟩ = some (.int .i64 6) := fun o1 => by rw [← hk]; exact (one o1).1
  have a6 : ∀ o1 : Obj, (w.alloc o1).cell? ⟨b, o + 6, none⟩ = some (.slice y.a y.n y.cap) := fun o1 => (one o1).2.2.2.2.2.2
  have c0 : ∀ o1 o2 : Obj, ((w.alloc o1).alloc o2).cell? ⟨b, o, none⟩ = some (.int .i64 6) := fun o1 o2 => by rw [← hk]; exact (cells o1 o2).1
  have c6 : ∀ o1 o2 : Obj, ((w.alloc o1).alloc o2).cell? ⟨b, o + 6, none⟩ = some (.slice y.a y.n y.cap) := fun o1 o2 => (cells o1 o2).2.2.2.2.2.2
  have hB6 : Hid True := trivial
  have hn' : ((y.n : Int) == 2) = true := by simp; omega
  clear hn
  clear hN one cells hB6
  go_enter Tryz.func89, Tryz.ntmps89
  go_wp2_with fail
  go_region
  go_wp2_with fail
  go_wp2_with (go_at_call 104; refine (alone_any b o (w.heap.size + 1) 0 y (X.mk 6 val0 ⟨#[]⟩ ⟨#[]⟩ y.a y.n y.cap y.c) (two1 w b o (X.mk 6 val0 ⟨#[]⟩ ⟨#[]⟩ y.a y.n y.cap y.c)).drew (hE.out (X.mk 6 val0 ⟨#[]⟩ ⟨#[]⟩ y.a y.n y.cap y.c)).2.1 (hE.out (X.mk 6 val0 ⟨#[]⟩ ⟨#[]⟩ y.a y.n y.cap y.c)).2.2.1).mono ?_; rintro e x9 ⟨rfl, hN9⟩)
  go_ret
  have hT9 : Below (two1 w b o (X.mk 6 val0 ⟨#[]⟩ ⟨#[]⟩ y.a y.n y.cap y.c)).heap.size (two1 w b o (X.mk 6 val0 ⟨#[]⟩ ⟨#[]⟩ y.a y.n y.cap y.c)) x9 := undrawn hN9 rfl rfl rfl rfl
  exact ⟨rfl, (hE.out (X.mk 6 val0 ⟨#[]⟩ ⟨#[]⟩ y.a y.n y.cap y.c)).2.2.2.trans (hT9.mono (hE.out (X.mk 6 val0 ⟨#[]⟩ ⟨#[]⟩ y.a y.n y.cap y.c)).2.2.2.size)⟩
set_option maxRecDepth 100000 in
set_option maxHeartbeats 2000000 in
theorem right_6_f (b o : Nat) (y : X) (w : World) (hN : Node w b o y) (hk : y.k = 6) (hn : ¬ y.n = 2) :
    Calls Tryz.prog 89 #[.pointer (some ⟨b, o, none⟩)] w fun e w' => e = .returned (.bool false) ∧ Below w.heap.size w w' := by
  have hE : Hid (∀ q : X, Boxed (two1 w b o q) w.heap.size 123 (.pointer (some ⟨b, o, none⟩)) ∧ Node (two1 w b o q) b o y ∧ Node (two1 w b o q) (w.heap.size + 1) 0 q ∧ Below w.heap.size w (two1 w b o q)) := fun q => two1_facts w b o y q hN
  have one : ∀ o1 : Obj, Node (w.alloc o1) b o y := fun o1 => hN.later ((Below.refl _ w).alloc (Nat.le_refl _) _)
  have cells : ∀ o1 o2 : Obj, Node ((w.alloc o1).alloc o2) b o y := fun o1 o2 => hN.later (((Below.refl _ w).alloc (Nat.le_refl _) _).alloc (by simp) _)
  have a0 : ∀ o1 : Obj, (w.alloc o1).cell? ⟨b, o, none⟩ = some (.int .i64 6) := fun o1 => by rw [← hk]; exact (one o1).1
  have a6 : ∀ o1 : Obj, (w.alloc o1).cell? ⟨b, o + 6, none⟩ = some (.slice y.a y.n y.cap) := fun o1 => (one o1).2.2.2.2.2.2
  have c0 : ∀ o1 o2 : Obj, ((w.alloc o1).alloc o2).cell? ⟨b, o, none⟩ = some (.int .i64 6) := fun o1 o2 => by rw [← hk]; exact (cells o1 o2).1
  have c6 : ∀ o1 o2 : Obj, ((w.alloc o1).alloc o2).cell? ⟨b, o + 6, none⟩ = some (.slice y.a y.n y.cap) := fun o1 o2 => (cells o1 o2).2.2.2.2.2.2
  have hB6 : Hid True := trivial
  have hn' : ((y.n : Int) == 2) = false := by simp; omega
  clear hn
  clear hN one cells hB6
  go_enter Tryz.func89, Tryz.ntmps89
  go_wp2_with fail
  go_region
  go_wp2_with fail
  go_wp2
  go_ret
  exact ⟨rfl, (hE.out (X.mk 6 val0 ⟨#[]⟩ ⟨#[]⟩ y.a y.n y.cap y.c)).2.2.2.drew⟩
set_option maxRecDepth 100000 in
set_option maxHeartbeats 2000000 in
theorem right_7_t (b o : Nat) (y : X) (w : World) (hN : Node w b o y) (hk : y.k = 7) (hn : y.n = 2) :
    Calls Tryz.prog 89 #[.pointer (some ⟨b, o, none⟩)] w fun e w' => e = .returned (.bool (alZ y (X.mk 7 val0 ⟨#[]⟩ ⟨#[]⟩ y.a y.n y.cap y.c) == 0)) ∧ Below w.heap.size w w' := by
  have hE : Hid (∀ q : X, Boxed (two1 w b o q) w.heap.size 123 (.pointer (some ⟨b, o, none⟩)) ∧ Node (two1 w b o q) b o y ∧ Node (two1 w b o q) (w.heap.size + 1) 0 q ∧ Below w.heap.size w (two1 w b o q)) := fun q => two1_facts w b o y q hN
  have one : ∀ o1 : Obj, Node (w.alloc o1) b o y := fun o1 => hN.later ((Below.refl _ w).alloc (Nat.le_refl _) _)
  have cells : ∀ o1 o2 : Obj, Node ((w.alloc o1).alloc o2) b o y := fun o1 o2 => hN.later (((Below.refl _ w).alloc (Nat.le_refl _) _).alloc (by simp) _)
  have a0 : ∀ o1 : Obj, (w.alloc o1).cell? ⟨b, o, none⟩ = some (.int .i64 7) := fun o1 => by rw [← hk]; exact (one o1).1
  have a6 : ∀ o1 : Obj, (w.alloc o1).cell? ⟨b, o + 6, none⟩ = some (.slice y.a y.n y.cap) := fun o1 => (one o1).2.2.2.2.2.2
  have c0 : ∀ o1 o2 : Obj, ((w.alloc o1).alloc o2).cell? ⟨b, o, none⟩ = some (.int .i64 7) := fun o1 o2 => by rw [← hk]; exact (cells o1 o2).1
  have c6 : ∀ o1 o2 : Obj, ((w.alloc o1).alloc o2).cell? ⟨b, o + 6, none⟩ = some (.slice y.a y.n y.cap) := fun o1 o2 => (cells o1 o2).2.2.2.2.2.2
  have hB6 : Hid True := trivial
  have hn' : ((y.n : Int) == 2) = true := by simp; omega
  clear hn
  clear hN one cells hB6
  go_enter Tryz.func89, Tryz.ntmps89
  go_wp2_with fail
  go_region
  go_wp2_with fail
  go_wp2_with (go_at_call 104; refine (alone_any b o (w.heap.size + 1) 0 y (X.mk 7 val0 ⟨#[]⟩ ⟨#[]⟩ y.a y.n y.cap y.c) (two1 w b o (X.mk 7 val0 ⟨#[]⟩ ⟨#[]⟩ y.a y.n y.cap y.c)).drew (hE.out (X.mk 7 val0 ⟨#[]⟩ ⟨#[]⟩ y.a y.n y.cap y.c)).2.1 (hE.out (X.mk 7 val0 ⟨#[]⟩ ⟨#[]⟩ y.a y.n y.cap y.c)).2.2.1).mono ?_; rintro e x9 ⟨rfl, hN9⟩)
  go_ret
  have hT9 : Below (two1 w b o (X.mk 7 val0 ⟨#[]⟩ ⟨#[]⟩ y.a y.n y.cap y.c)).heap.size (two1 w b o (X.mk 7 val0 ⟨#[]⟩ ⟨#[]⟩ y.a y.n y.cap y.c)) x9 := undrawn hN9 rfl rfl rfl rfl
  exact ⟨rfl, (hE.out (X.mk 7 val0 ⟨#[]⟩ ⟨#[]⟩ y.a y.n y.cap y.c)).2.2.2.trans (hT9.mono (hE.out (X.mk 7 val0 ⟨#[]⟩ ⟨#[]⟩ y.a y.n y.cap y.c)).2.2.2.size)⟩
set_option maxRecDepth 100000 in
set_option maxHeartbeats 2000000 in
theorem right_7_f (b o : Nat) (y : X) (w : World) (hN : Node w b o y) (hk : y.k = 7) (hn : ¬ y.n = 2) :
    Calls Tryz.prog 89 #[.pointer (some ⟨b, o, none⟩)] w fun e w' => e = .returned (.bool false) ∧ Below w.heap.size w w' := by
  have hE : Hid (∀ q : X, Boxed (two1 w b o q) w.heap.size 123 (.pointer (some ⟨b, o, none⟩)) ∧ Node (two1 w b o q) b o y ∧ Node (two1 w b o q) (w.heap.size + 1) 0 q ∧ Below w.heap.size w (two1 w b o q)) := fun q => two1_facts w b o y q hN
  have one : ∀ o1 : Obj, Node (w.alloc o1) b o y := fun o1 => hN.later ((Below.refl _ w).alloc (Nat.le_refl _) _)
  have cells : ∀ o1 o2 : Obj, Node ((w.alloc o1).alloc o2) b o y := fun o1 o2 => hN.later (((Below.refl _ w).alloc (Nat.le_refl _) _).alloc (by simp) _)
  have a0 : ∀ o1 : Obj, (w.alloc o1).cell? ⟨b, o, none⟩ = some (.int .i64 7) := fun o1 => by rw [← hk]; exact (one o1).1
  have a6 : ∀ o1 : Obj, (w.alloc o1).cell? ⟨b, o + 6, none⟩ = some (.slice y.a y.n y.cap) := fun o1 => (one o1).2.2.2.2.2.2
  have c0 : ∀ o1 o2 : Obj, ((w.alloc o1).alloc o2).cell? ⟨b, o, none⟩ = some (.int .i64 7) := fun o1 o2 => by rw [← hk]; exact (cells o1 o2).1
  have c6 : ∀ o1 o2 : Obj, ((w.alloc o1).alloc o2).cell? ⟨b, o + 6, none⟩ = some (.slice y.a y.n y.cap) := fun o1 o2 => (cells o1 o2).2.2.2.2.2.2
  have hB6 : Hid True := trivial
  have hn' : ((y.n : Int) == 2) = false := by simp; omega
  clear hn
  clear hN one cells hB6
  go_enter Tryz.func89, Tryz.ntmps89
  go_wp2_with fail
  go_region
  go_wp2_with fail
  go_wp2
  go_ret
  exact ⟨rfl, (hE.out (X.mk 7 val0 ⟨#[]⟩ ⟨#[]⟩ y.a y.n y.cap y.c)).2.2.2.drew⟩
end Go.Proofs.YtfnfegcjgnbgbaaGreatDoor
namespace Go.Proofs.YtfnfegcjgnbgbaaGreatDoor
open Go.RowKit

set_option maxRecDepth 100000 in
set_option maxHeartbeats 2000000 in
theorem right_8_t (b o : Nat) (y : X) (w : World) (hN : Node w b o y) (hk : y.k = 8) (hn : y.n = 2) :
    Calls Tryz.prog 89 #[.pointer (some ⟨b, o, none⟩)] w fun e w' => e = .returned (.bool (alZ y (X.mk 8 val0 ⟨#[]⟩ ⟨#[]⟩ y.a y.n y.cap y.c) == 0)) ∧ Below w.heap.size w w' := by
  have hE : Hid (∀ q : X, Boxed (two1 w b o q) w.heap.size 123 (.pointer (some ⟨b, o, none⟩)) ∧ Node (two1 w b o q) b o y ∧ Node (two1 w b o q) (w.heap.size + 1) 0 q ∧ Below w.heap.size w (two1 w b o q)) := fun q => two1_facts w b o y q hN
  have one : ∀ o1 : Obj, Node (w.alloc o1) b o y := fun o1 => hN.later ((Below.refl _ w).alloc (Nat.le_refl _) _)
  have cells : ∀ o1 o2 : Obj, Node ((w.alloc o1).alloc o2) b o y := fun o1 o2 => hN.later (((Below.refl _ w).alloc (Nat.le_refl _) _).alloc (by simp) _)
  have a0 : ∀ o1 : Obj, (w.alloc o1).cell? ⟨b, o, none⟩ = some (.int .i64 8) := fun o1 => by rw [← hk]; exact (one o1).1
  have a6 : ∀ o1 : Obj, (w.alloc o1).cell? ⟨b, o + 6, none⟩ = some (.slice y.a y.n y.cap) := fun o1 => (one o1).2.2.2.2.2.2
  have c0 : ∀ o1 o2 : Obj, ((w.alloc o1).alloc o2).cell? ⟨b, o, none⟩ = some (.int .i64 8) := fun o1 o2 => by rw [← hk]; exact (cells o1 o2).1
  have c6 : ∀ o1 o2 : Obj, ((w.alloc o1).alloc o2).cell? ⟨b, o + 6, none⟩ = some (.slice y.a y.n y.cap) := fun o1 o2 => (cells o1 o2).2.2.2.2.2.2
  have hB6 : Hid True := trivial
  have hn' : ((y.n : Int) == 2) = true := by simp; omega
  clear hn
  clear hN one cells hB6
  go_enter Tryz.func89, Tryz.ntmps89
  go_wp2_with fail
  go_region
  go_wp2_with fail
  go_wp2_with (go_at_call 104; refine (alone_any b o (w.heap.size + 1) 0 y (X.mk 8 val0 ⟨#[]⟩ ⟨#[]⟩ y.a y.n y.cap y.c) (two1 w b o (X.mk 8 val0 ⟨#[]⟩ ⟨#[]⟩ y.a y.n y.cap y.c)).drew (hE.out (X.mk 8 val0 ⟨#[]⟩ ⟨#[]⟩ y.a y.n y.cap y.c)).2.1 (hE.out (X.mk 8 val0 ⟨#[]⟩ ⟨#[]⟩ y.a y.n y.cap y.c)).2.2.1).mono ?_; rintro e x9 ⟨rfl, hN9⟩)
  go_ret
  have hT9 : Below (two1 w b o (X.mk 8 val0 ⟨#[]⟩ ⟨#[]⟩ y.a y.n y.cap y.c)).heap.size (two1 w b o (X.mk 8 val0 ⟨#[]⟩ ⟨#[]⟩ y.a y.n y.cap y.c)) x9 := undrawn hN9 rfl rfl rfl rfl
  exact ⟨rfl, (hE.out (X.mk 8 val0 ⟨#[]⟩ ⟨#[]⟩ y.a y.n y.cap y.c)).2.2.2.trans (hT9.mono (hE.out (X.mk 8 val0 ⟨#[]⟩ ⟨#[]⟩ y.a y.n y.cap y.c)).2.2.2.size)⟩
set_option maxRecDepth 100000 in
set_option maxHeartbeats 2000000 in
theorem right_8_f (b o : Nat) (y : X) (w : World) (hN : Node w b o y) (hk : y.k = 8) (hn : ¬ y.n = 2) :
    Calls Tryz.prog 89 #[.pointer (some ⟨b, o, none⟩)] w fun e w' => e = .returned (.bool false) ∧ Below w.heap.size w w' := by
  have hE : Hid (∀ q : X, Boxed (two1 w b o q) w.heap.size 123 (.pointer (some ⟨b, o, none⟩)) ∧ Node (two1 w b o q) b o y ∧ Node (two1 w b o q) (w.heap.size + 1) 0 q ∧ Below w.heap.size w (two1 w b o q)) := fun q => two1_facts w b o y q hN
  have one : ∀ o1 : Obj, Node (w.alloc o1) b o y := fun o1 => hN.later ((Below.refl _ w).alloc (Nat.le_refl _) _)
  have cells : ∀ o1 o2 : Obj, Node ((w.alloc o1).alloc o2) b o y := fun o1 o2 => hN.later (((Below.refl _ w).alloc (Nat.le_refl _) _).alloc (by simp) _)
  have a0 : ∀ o1 : Obj, (w.alloc o1).cell? ⟨b, o, none⟩ = some (.int .i64 8) := fun o1 => by rw [← hk]; exact (one o1).1
  have a6 : ∀ o1 : Obj, (w.alloc o1).cell? ⟨b, o + 6, none⟩ = some (.slice y.a y.n y.cap) := fun o1 => (one o1).2.2.2.2.2.2
  have c0 : ∀ o1 o2 : Obj, ((w.alloc o1).alloc o2).cell? ⟨b, o, none⟩ = some (.int .i64 8) := fun o1 o2 => by rw [← hk]; exact (cells o1 o2).1
  have c6 : ∀ o1 o2 : Obj, ((w.alloc o1).alloc o2).cell? ⟨b, o + 6, none⟩ = some (.slice y.a y.n y.cap) := fun o1 o2 => (cells o1 o2).2.2.2.2.2.2
  have hB6 : Hid True := trivial
  have hn' : ((y.n : Int) == 2) = false := by simp; omega
  clear hn
  clear hN one cells hB6
  go_enter Tryz.func89, Tryz.ntmps89
  go_wp2_with fail
  go_region
  go_wp2_with fail
  go_wp2
  go_ret
  exact ⟨rfl, (hE.out (X.mk 8 val0 ⟨#[]⟩ ⟨#[]⟩ y.a y.n y.cap y.c)).2.2.2.drew⟩
set_option maxRecDepth 100000 in
set_option maxHeartbeats 2000000 in
theorem right_9_t (b o : Nat) (y : X) (w : World) (hN : Node w b o y) (hk : y.k = 9) (hn : y.n = 2) :
    Calls Tryz.prog 89 #[.pointer (some ⟨b, o, none⟩)] w fun e w' => e = .returned (.bool (alZ y (X.mk 9 val0 ⟨#[]⟩ ⟨#[]⟩ y.a y.n y.cap y.c) == 0)) ∧ Below w.heap.size w w' := by
  have hE : Hid (∀ q : X, Boxed (two1 w b o q) w.heap.size 123 (.pointer (some ⟨b, o, none⟩)) ∧ Node (two1 w b o q) b o y ∧ Node (two1 w b o q) (w.heap.size + 1) 0 q ∧ Below w.heap.size w (two1 w b o q)) := fun q => two1_facts w b o y q hN
  have one : ∀ o1 : Obj, Node (w.alloc o1) b o y := fun o1 => hN.later ((Below.refl _ w).alloc (Nat.le_refl _) _)
  have cells : ∀ o1 o2 : Obj, Node ((w.alloc o1).alloc o2) b o y := fun o1 o2 => hN.later (((Below.refl _ w).alloc (Nat.le_refl _) _).alloc (by simp) _)
  have a0 : ∀ o1 : Obj, (w.alloc o1).cell? ⟨b, o, none⟩ = some (.int .i64 9) := fun o1 => by rw [← hk]; exact (one o1).1
  have a6 : ∀ o1 : Obj, (w.alloc o1).cell? ⟨b, o + 6, none⟩ = some (.slice y.a y.n y.cap) := fun o1 => (one o1).2.2.2.2.2.2
  have c0 : ∀ o1 o2 : Obj, ((w.alloc o1).alloc o2).cell? ⟨b, o, none⟩ = some (.int .i64 9) := fun o1 o2 => by rw [← hk]; exact (cells o1 o2).1
  have c6 : ∀ o1 o2 : Obj, ((w.alloc o1).alloc o2).cell? ⟨b, o + 6, none⟩ = some (.slice y.a y.n y.cap) := fun o1 o2 => (cells o1 o2).2.2.2.2.2.2
  have hB6 : Hid True := trivial
  have hn' : ((y.n : Int) == 2) = true := by simp; omega
  clear hn
  clear hN one cells hB6
  go_enter Tryz.func89, Tryz.ntmps89
  go_wp2_with fail
  go_region
  go_wp2_with fail
  go_wp2_with (go_at_call 104; refine (alone_any b o (w.heap.size + 1) 0 y (X.mk 9 val0 ⟨#[]⟩ ⟨#[]⟩ y.a y.n y.cap y.c) (two1 w b o (X.mk 9 val0 ⟨#[]⟩ ⟨#[]⟩ y.a y.n y.cap y.c)).drew (hE.out (X.mk 9 val0 ⟨#[]⟩ ⟨#[]⟩ y.a y.n y.cap y.c)).2.1 (hE.out (X.mk 9 val0 ⟨#[]⟩ ⟨#[]⟩ y.a y.n y.cap y.c)).2.2.1).mono ?_; rintro e x9 ⟨rfl, hN9⟩)
  go_ret
  have hT9 : Below (two1 w b o (X.mk 9 val0 ⟨#[]⟩ ⟨#[]⟩ y.a y.n y.cap y.c)).heap.size (two1 w b o (X.mk 9 val0 ⟨#[]⟩ ⟨#[]⟩ y.a y.n y.cap y.c)) x9 := undrawn hN9 rfl rfl rfl rfl
  exact ⟨rfl, (hE.out (X.mk 9 val0 ⟨#[]⟩ ⟨#[]⟩ y.a y.n y.cap y.c)).2.2.2.trans (hT9.mono (hE.out (X.mk 9 val0 ⟨#[]⟩ ⟨#[]⟩ y.a y.n y.cap y.c)).2.2.2.size)⟩
set_option maxRecDepth 100000 in
set_option maxHeartbeats 2000000 in
theorem right_9_f (b o : Nat) (y : X) (w : World) (hN : Node w b o y) (hk : y.k = 9) (hn : ¬ y.n = 2) :
    Calls Tryz.prog 89 #[.pointer (some ⟨b, o, none⟩)] w fun e w' => e = .returned (.bool false) ∧ Below w.heap.size w w' := by
  have hE : Hid (∀ q : X, Boxed (two1 w b o q) w.heap.size 123 (.pointer (some ⟨b, o, none⟩)) ∧ Node (two1 w b o q) b o y ∧ Node (two1 w b o q) (w.heap.size + 1) 0 q ∧ Below w.heap.size w (two1 w b o q)) := fun q => two1_facts w b o y q hN
  have one : ∀ o1 : Obj, Node (w.alloc o1) b o y := fun o1 => hN.later ((Below.refl _ w).alloc (Nat.le_refl _) _)
  have cells : ∀ o1 o2 : Obj, Node ((w.alloc o1).alloc o2) b o y := fun o1 o2 => hN.later (((Below.refl _ w).alloc (Nat.le_refl _) _).alloc (by simp) _)
  have a0 : ∀ o1 : Obj, (w.alloc o1).cell? ⟨b, o, none⟩ = some (.int .i64 9) := fun o1 => by rw [← hk]; exact (one o1).1
  have a6 : ∀ o1 : Obj, (w.alloc o1).cell? ⟨b, o + 6, none⟩ = some (.slice y.a y.n y.cap) := fun o1 => (one o1).2.2.2.2.2.2
  have c0 : ∀ o1 o2 : Obj, ((w.alloc o1).alloc o2).cell? ⟨b, o, none⟩ = some (.int .i64 9) := fun o1 o2 => by rw [← hk]; exact (cells o1 o2).1
  have c6 : ∀ o1 o2 : Obj, ((w.alloc o1).alloc o2).cell? ⟨b, o + 6, none⟩ = some (.slice y.a y.n y.cap) := fun o1 o2 => (cells o1 o2).2.2.2.2.2.2
  have hB6 : Hid True := trivial
  have hn' : ((y.n : Int) == 2) = false := by simp; omega
  clear hn
  clear hN one cells hB6
  go_enter Tryz.func89, Tryz.ntmps89
  go_wp2_with fail
  go_region
  go_wp2_with fail
  go_wp2
  go_ret
  exact ⟨rfl, (hE.out (X.mk 9 val0 ⟨#[]⟩ ⟨#[]⟩ y.a y.n y.cap y.c)).2.2.2.drew⟩
set_option maxRecDepth 100000 in
set_option maxHeartbeats 2000000 in
theorem right_10_t (b o : Nat) (y : X) (w : World) (hN : Node w b o y) (hk : y.k = 10) (hn : y.n = 2) :
    Calls Tryz.prog 89 #[.pointer (some ⟨b, o, none⟩)] w fun e w' => e = .returned (.bool (alZ y (X.mk 10 val0 ⟨#[]⟩ ⟨#[]⟩ y.a y.n y.cap y.c) == 0)) ∧ Below w.heap.size w w' := by
  have hE : Hid (∀ q : X, Boxed (two1 w b o q) w.heap.size 123 (.pointer (some ⟨b, o, none⟩)) ∧ Node (two1 w b o q) b o y ∧ Node (two1 w b o q) (w.heap.size + 1) 0 q ∧ Below w.heap.size w (two1 w b o q)) := fun q => two1_facts w b o y q hN
  have one : ∀ o1 : Obj, Node (w.alloc o1) b o y := fun o1 => hN.later ((Below.refl _ w).alloc (Nat.le_refl _) _)
  have cells : ∀ o1 o2 : Obj, Node ((w.alloc o1).alloc o2) b o y := fun o1 o2 => hN.later (((Below.refl _ w).alloc (Nat.le_refl _) _).alloc (by simp) _)
  have a0 : ∀ o1 : Obj, (w.alloc o1).cell? ⟨b, o, none⟩ = some (.int .i64 10) := fun o1 => by rw [← hk]; exact (one o1).1
  have a6 : ∀ o1 : Obj, (w.alloc o1).cell? ⟨b, o + 6, none⟩ = some (.slice y.a y.n y.cap) := fun o1 => (one o1).2.2.2.2.2.2
  have c0 : ∀ o1 o2 : Obj, ((w.alloc o1).alloc o2).cell? ⟨b, o, none⟩ = some (.int .i64 10) := fun o1 o2 => by rw [← hk]; exact (cells o1 o2).1
  have c6 : ∀ o1 o2 : Obj, ((w.alloc o1).alloc o2).cell? ⟨b, o + 6, none⟩ = some (.slice y.a y.n y.cap) := fun o1 o2 => (cells o1 o2).2.2.2.2.2.2
  have hB6 : Hid True := trivial
  have hn' : ((y.n : Int) == 2) = true := by simp; omega
  clear hn
  clear hN one cells hB6
  go_enter Tryz.func89, Tryz.ntmps89
  go_wp2_with fail
  go_region
  go_wp2_with fail
  go_wp2_with (go_at_call 104; refine (alone_any b o (w.heap.size + 1) 0 y (X.mk 10 val0 ⟨#[]⟩ ⟨#[]⟩ y.a y.n y.cap y.c) (two1 w b o (X.mk 10 val0 ⟨#[]⟩ ⟨#[]⟩ y.a y.n y.cap y.c)).drew (hE.out (X.mk 10 val0 ⟨#[]⟩ ⟨#[]⟩ y.a y.n y.cap y.c)).2.1 (hE.out (X.mk 10 val0 ⟨#[]⟩ ⟨#[]⟩ y.a y.n y.cap y.c)).2.2.1).mono ?_; rintro e x9 ⟨rfl, hN9⟩)
  go_ret
  have hT9 : Below (two1 w b o (X.mk 10 val0 ⟨#[]⟩ ⟨#[]⟩ y.a y.n y.cap y.c)).heap.size (two1 w b o (X.mk 10 val0 ⟨#[]⟩ ⟨#[]⟩ y.a y.n y.cap y.c)) x9 := undrawn hN9 rfl rfl rfl rfl
  exact ⟨rfl, (hE.out (X.mk 10 val0 ⟨#[]⟩ ⟨#[]⟩ y.a y.n y.cap y.c)).2.2.2.trans (hT9.mono (hE.out (X.mk 10 val0 ⟨#[]⟩ ⟨#[]⟩ y.a y.n y.cap y.c)).2.2.2.size)⟩
set_option maxRecDepth 100000 in
set_option maxHeartbeats 2000000 in
theorem right_10_f (b o : Nat) (y : X) (w : World) (hN : Node w b o y) (hk : y.k = 10) (hn : ¬ y.n = 2) :
    Calls Tryz.prog 89 #[.pointer (some ⟨b, o, none⟩)] w fun e w' => e = .returned (.bool false) ∧ Below w.heap.size w w' := by
  have hE : Hid (∀ q : X, Boxed (two1 w b o q) w.heap.size 123 (.pointer (some ⟨b, o, none⟩)) ∧ Node (two1 w b o q) b o y ∧ Node (two1 w b o q) (w.heap.size + 1) 0 q ∧ Below w.heap.size w (two1 w b o q)) := fun q => two1_facts w b o y q hN
  have one : ∀ o1 : Obj, Node (w.alloc o1) b o y := fun o1 => hN.later ((Below.refl _ w).alloc (Nat.le_refl _) _)
  have cells : ∀ o1 o2 : Obj, Node ((w.alloc o1).alloc o2) b o y := fun o1 o2 => hN.later (((Below.refl _ w).alloc (Nat.le_refl _) _).alloc (by simp) _)
  have a0 : ∀ o1 : Obj, (w.alloc o1).cell? ⟨b, o, none⟩ = some (.int .i64 10) := fun o1 => by rw [← hk]; exact (one o1).1
  have a6 : ∀ o1 : Obj, (w.alloc o1).cell? ⟨b, o + 6, none⟩ = some (.slice y.a y.n y.cap) := fun o1 => (one o1).2.2.2.2.2.2
  have c0 : ∀ o1 o2 : Obj, ((w.alloc o1).alloc o2).cell? ⟨b, o, none⟩ = some (.int .i64 10) := fun o1 o2 => by rw [← hk]; exact (cells o1 o2).1
  have c6 : ∀ o1 o2 : Obj, ((w.alloc o1).alloc o2).cell? ⟨b, o + 6, none⟩ = some (.slice y.a y.n y.cap) := fun o1 o2 => (cells o1 o2).2.2.2.2.2.2
  have hB6 : Hid True := trivial
  have hn' : ((y.n : Int) == 2) = false := by simp; omega
  clear hn
  clear hN one cells hB6
  go_enter Tryz.func89, Tryz.ntmps89
  go_wp2_with fail
  go_region
  go_wp2_with fail
  go_wp2
  go_ret
  exact ⟨rfl, (hE.out (X.mk 10 val0 ⟨#[]⟩ ⟨#[]⟩ y.a y.n y.cap y.c)).2.2.2.drew⟩
end Go.Proofs.YtfnfegcjgnbgbaaGreatDoor
