/-
  expr.right at a node that has parts.
  expr.right at XAnd and XOr, and at what is no kind.
  expr.right at any node.
-/
import Derived.Test.YtfnfegcjgnbgbaaGreatDoorTExprRightCF
namespace Go.Proofs.YtfnfegcjgnbgbaaGreatDoor
open Go.RowKit

set_option maxRecDepth 100000 in
set_option maxHeartbeats 2000000 in
theorem right_11_t (b o : Nat) (y : X) (w : World) (hN : Node w b o y) (hk : y.k = 11) (hn : y.n = 2) :
    Calls Tryz.prog 89 #[.pointer (some ⟨b, o, none⟩)] w fun e w' => e = .returned (.bool (alZ y (X.mk 11 val0 ⟨#[]⟩ ⟨#[]⟩ y.a y.n y.cap y.c) == 0)) ∧ Below w.heap.size w w' := by
  have hE : Hid (∀ q : X, Boxed (two1 w b o q) w.heap.size 123 (.pointer (some ⟨b, o, none⟩)) ∧ Node (two1 w b o q) b o y ∧ Node (two1 w b o q) (w.heap.size + 1) 0 q ∧ Below w.heap.size w (two1 w b o q)) := fun q => two1_facts w b o y q hN
  have one : ∀ o1 : Obj, Node (w.alloc o1) b o y := fun o1 => hN.later ((Below.refl _ w).alloc (Nat.le_refl _) _)
  have cells : ∀ o1 o2 : Obj, Node ((w.alloc o1).alloc o2) b o y := fun o1 o2 => hN.later (((Below.refl _ w).alloc (Nat.le_refl _) _).alloc (by simp) _)
  have a0 : ∀ o1 : Obj, (w.alloc o1).cell? ⟨b, o, none⟩ = some (.int .i64 11) := fun o1 => by rw [← hk]; exact (one o1).1
  have a6 : ∀ o1 : Obj, (w.alloc o1).cell? ⟨b, o + 6, none⟩ = some (.slice y.a y.n y.cap) := fun o1 => (one o1).2.2.2.2.2.2
  have c0 : ∀ o1 o2 : Obj, ((w.alloc o1).alloc o2).cell? ⟨b, o, none⟩ = some (.int .i64 11) := fun o1 o2 => by rw [← hk]; exact (cells o1 o2).1
  have c6 : ∀ o1 o2 : Obj, ((w.alloc o1).alloc o2).cell? ⟨b, o + 6, none⟩ = some (.slice y.a y.n y.cap) := fun o1 o2 => (cells o1 o2).2.2.2.2.2.2
  have hB6 : Hid True := trivial
  have hn' : ((y.n : Int) == 2) = true := by simp; omega
  clear hn
  clear hN one cells hB6
  go_enter Tryz.func89, Tryz.ntmps89
  go_wp2_with fail
  go_region
  go_wp2_with fail
  go_wp2_with (go_at_call 104; refine (alone_any b o (w.heap.size + 1) 0 y (X.mk 11 val0 ⟨#[]⟩ ⟨#[]⟩ y.a y.n y.cap y.c) (two1 w b o (X.mk 11 val0 ⟨#[]⟩ ⟨#[]⟩ y.a y.n y.cap y.c)).drew (hE.out (X.mk 11 val0 ⟨#[]⟩ ⟨#[]⟩ y.a y.n y.cap y.c)).2.1 (hE.out (X.mk 11 val0 ⟨#[]⟩ ⟨#[]⟩ y.a y.n y.cap y.c)).2.2.1).mono ?_; rintro e x9 ⟨rfl, hN9⟩)
  go_ret
  have hT9 : Below (two1 w b o (X.mk 11 val0 ⟨#[]⟩ ⟨#[]⟩ y.a y.n y.cap y.c)).heap.size (two1 w b o (X.mk 11 val0 ⟨#[]⟩ ⟨#[]⟩ y.a y.n y.cap y.c)) x9 := undrawn hN9 rfl rfl rfl rfl
  exact ⟨rfl, (hE.out (X.mk 11 val0 ⟨#[]⟩ ⟨#[]⟩ y.a y.n y.cap y.c)).2.2.2.trans (hT9.mono (hE.out (X.mk 11 val0 ⟨#[]⟩ ⟨#[]⟩ y.a y.n y.cap y.c)).2.2.2.size)⟩
set_option maxRecDepth 100000 in
set_option maxHeartbeats 2000000 in
theorem right_11_f (b o : Nat) (y : X) (w : World) (hN : Node w b o y) (hk : y.k = 11) (hn : ¬ y.n = 2) :
    Calls Tryz.prog 89 #[.pointer (some ⟨b, o, none⟩)] w fun e w' => e = .returned (.bool false) ∧ Below w.heap.size w w' := by
  have hE : Hid (∀ q : X, Boxed (two1 w b o q) w.heap.size 123 (.pointer (some ⟨b, o, none⟩)) ∧ Node (two1 w b o q) b o y ∧ Node (two1 w b o q) (w.heap.size + 1) 0 q ∧ Below w.heap.size w (two1 w b o q)) := fun q => two1_facts w b o y q hN
  have one : ∀ o1 : Obj, Node (w.alloc o1) b o y := fun o1 => hN.later ((Below.refl _ w).alloc (Nat.le_refl _) _)
  have cells : ∀ o1 o2 : Obj, Node ((w.alloc o1).alloc o2) b o y := fun o1 o2 => hN.later (((Below.refl _ w).alloc (Nat.le_refl _) _).alloc (by simp) _)
  have a0 : ∀ o1 : Obj, (w.alloc o1).cell? ⟨b, o, none⟩ = some (.int .i64 11) := fun o1 => by rw [← hk]; exact (one o1).1
  have a6 : ∀ o1 : Obj, (w.alloc o1).cell? ⟨b, o + 6, none⟩ = some (.slice y.a y.n y.cap) := fun o1 => (one o1).2.2.2.2.2.2
  have c0 : ∀ o1 o2 : Obj, ((w.alloc o1).alloc o2).cell? ⟨b, o, none⟩ = some (.int .i64 11) := fun o1 o2 => by rw [← hk]; exact (cells o1 o2).1
  have c6 : ∀ o1 o2 : Obj, ((w.alloc o1).alloc o2).cell? ⟨b, o + 6, none⟩ = some (.slice y.a y.n y.cap) := fun o1 o2 => (cells o1 o2).2.2.2.2.2.2
  have hB6 : Hid True := trivial
  have hn' : ((y.n : Int) == 2) = false := by simp; omega
  clear hn
  clear hN one cells hB6
  go_enter Tryz.func89, Tryz.ntmps89
  go_wp2_with fail
  go_region
  go_wp2_with fail
  go_wp2
  go_ret
  exact ⟨rfl, (hE.out (X.mk 11 val0 ⟨#[]⟩ ⟨#[]⟩ y.a y.n y.cap y.c)).2.2.2.drew⟩
set_option maxRecDepth 100000 in
set_option maxHeartbeats 2000000 in
theorem right_12_t (b o : Nat) (y : X) (w : World) (hN : Node w b o y) (hk : y.k = 12) (hn : y.n = 2) :
    Calls Tryz.prog 89 #[.pointer (some ⟨b, o, none⟩)] w fun e w' => e = .returned (.bool (alZ y (X.mk 12 val0 ⟨#[]⟩ ⟨#[]⟩ y.a y.n y.cap y.c) == 0)) ∧ Below w.heap.size w w' := by
  have hE : Hid (∀ q : X, Boxed (two1 w b o q) w.heap.size 123 (.pointer (some ⟨b, o, none⟩)) ∧ Node (two1 w b o q) b o y ∧ Node (two1 w b o q) (w.heap.size + 1) 0 q ∧ Below w.heap.size w (two1 w b o q)) := fun q => two1_facts w b o y q hN
  have one : ∀ o1 : Obj, Node (w.alloc o1) b o y := fun o1 => hN.later ((Below.refl _ w).alloc (Nat.le_refl _) _)
  have cells : ∀ o1 o2 : Obj, Node ((w.alloc o1).alloc o2) b o y := fun o1 o2 => hN.later (((Below.refl _ w).alloc (Nat.le_refl _) _).alloc (by simp) _)
  have a0 : ∀ o1 : Obj, (w.alloc o1).cell? ⟨b, o, none⟩ = some (.int .i64 12) := fun o1 => by rw [← hk]; exact (one o1).1
  have a6 : ∀ o1 : Obj, (w.alloc o1).cell? ⟨b, o + 6, none⟩ = some (.slice y.a y.n y.cap) := fun o1 => (one o1).2.2.2.2.2.2
  have c0 : ∀ o1 o2 : Obj, ((w.alloc o1).alloc o2).cell? ⟨b, o, none⟩ = some (.int .i64 12) := fun o1 o2 => by rw [← hk]; exact (cells o1 o2).1
  have c6 : ∀ o1 o2 : Obj, ((w.alloc o1).alloc o2).cell? ⟨b, o + 6, none⟩ = some (.slice y.a y.n y.cap) := fun o1 o2 => (cells o1 o2).2.2.2.2.2.2
  have hB6 : Hid True := trivial
  have hn' : ((y.n : Int) == 2) = true := by simp; omega
  clear hn
  clear hN one cells hB6
  go_enter Tryz.func89, Tryz.ntmps89
  go_wp2_with fail
  go_region
  go_wp2_with fail
  go_wp2_with (go_at_call 104; refine (alone_any b o (w.heap.size + 1) 0 y (X.mk 12 val0 ⟨#[]⟩ ⟨#[]⟩ y.a y.n y.cap y.c) (two1 w b o (X.mk 12 val0 ⟨#[]⟩ ⟨#[]⟩ y.a y.n y.cap y.c)).drew (hE.out (X.mk 12 val0 ⟨#[]⟩ ⟨#[]⟩ y.a y.n y.cap y.c)).2.1 (hE.out (X.mk 12 val0 ⟨#[]⟩ ⟨#[]⟩ y.a y.n y.cap y.c)).2.2.1).mono ?_; rintro e x9 ⟨rfl, hN9⟩)
  go_ret
  have hT9 : Below (two1 w b o (X.mk 12 val0 ⟨#[]⟩ ⟨#[]⟩ y.a y.n y.cap y.c)).heap.size (two1 w b o (X.mk 12 val0 ⟨#[]⟩ ⟨#[]⟩ y.a y.n y.cap y.c)) x9 := undrawn hN9 rfl rfl rfl rfl
  exact ⟨rfl, (hE.out (X.mk 12 val0 ⟨#[]⟩ ⟨#[]⟩ y.a y.n y.cap y.c)).2.2.2.trans (hT9.mono (hE.out (X.mk 12 val0 ⟨#[]⟩ ⟨#[]⟩ y.a y.n y.cap y.c)).2.2.2.size)⟩
set_option maxRecDepth 100000 in
set_option maxHeartbeats 2000000 in
theorem right_12_f (b o : Nat) (y : X) (w : World) (hN : Node w b o y) (hk : y.k = 12) (hn : ¬ y.n = 2) :
    Calls Tryz.prog 89 #[.pointer (some ⟨b, o, none⟩)] w fun e w' => e = .returned (.bool false) ∧ Below w.heap.size w w' := by
  have hE : Hid (∀ q : X, Boxed (two1 w b o q) w.heap.size 123 (.pointer (some ⟨b, o, none⟩)) ∧ Node (two1 w b o q) b o y ∧ Node (two1 w b o q) (w.heap.size + 1) 0 q ∧ Below w.heap.size w (two1 w b o q)) := fun q => two1_facts w b o y q hN
  have one : ∀ o1 : Obj, Node (w.alloc o1) b o y := fun o1 => hN.later ((Below.refl _ w).alloc (Nat.le_refl _) _)
  have cells : ∀ o1 o2 : Obj, Node ((w.alloc o1).alloc o2) b o y := fun o1 o2 => hN.later (((Below.refl _ w).alloc (Nat.le_refl _) _).alloc (by simp) _)
  have a0 : ∀ o1 : Obj, (w.alloc o1).cell? ⟨b, o, none⟩ = some (.int .i64 12) := fun o1 => by rw [← hk]; exact (one o1).1
  have a6 : ∀ o1 : Obj, (w.alloc o1).cell? ⟨b, o + 6, none⟩ = some (.slice y.a y.n y.cap) := fun o1 => (one o1).2.2.2.2.2.2
  have c0 : ∀ o1 o2 : Obj, ((w.alloc o1).alloc o2).cell? ⟨b, o, none⟩ = some (.int .i64 12) := fun o1 o2 => by rw [← hk]; exact (cells o1 o2).1
  have c6 : ∀ o1 o2 : Obj, ((w.alloc o1).alloc o2).cell? ⟨b, o + 6, none⟩ = some (.slice y.a y.n y.cap) := fun o1 o2 => (cells o1 o2).2.2.2.2.2.2
  have hB6 : Hid True := trivial
  have hn' : ((y.n : Int) == 2) = false := by simp; omega
  clear hn
  clear hN one cells hB6
  go_enter Tryz.func89, Tryz.ntmps89
  go_wp2_with fail
  go_region
  go_wp2_with fail
  go_wp2
  go_ret
  exact ⟨rfl, (hE.out (X.mk 12 val0 ⟨#[]⟩ ⟨#[]⟩ y.a y.n y.cap y.c)).2.2.2.drew⟩
set_option maxRecDepth 100000 in
set_option maxHeartbeats 2000000 in
theorem right_13_t (b o : Nat) (y : X) (w : World) (hN : Node w b o y) (hk : y.k = 13) (hn : y.n = 2) :
    Calls Tryz.prog 89 #[.pointer (some ⟨b, o, none⟩)] w fun e w' => e = .returned (.bool (alZ y (X.mk 13 val0 ⟨#[]⟩ ⟨#[]⟩ y.a y.n y.cap y.c) == 0)) ∧ Below w.heap.size w w' := by
  have hE : Hid (∀ q : X, Boxed (two1 w b o q) w.heap.size 123 (.pointer (some ⟨b, o, none⟩)) ∧ Node (two1 w b o q) b o y ∧ Node (two1 w b o q) (w.heap.size + 1) 0 q ∧ Below w.heap.size w (two1 w b o q)) := fun q => two1_facts w b o y q hN
  have one : ∀ o1 : Obj, Node (w.alloc o1) b o y := fun o1 => hN.later ((Below.refl _ w).alloc (Nat.le_refl _) _)
  have cells : ∀ o1 o2 : Obj, Node ((w.alloc o1).alloc o2) b o y := fun o1 o2 => hN.later (((Below.refl _ w).alloc (Nat.le_refl _) _).alloc (by simp) _)
  have a0 : ∀ o1 : Obj, (w.alloc o1).cell? ⟨b, o, none⟩ = some (.int .i64 13) := fun o1 => by rw [← hk]; exact (one o1).1
  have a6 : ∀ o1 : Obj, (w.alloc o1).cell? ⟨b, o + 6, none⟩ = some (.slice y.a y.n y.cap) := fun o1 => (one o1).2.2.2.2.2.2
  have c0 : ∀ o1 o2 : Obj, ((w.alloc o1).alloc o2).cell? ⟨b, o, none⟩ = some (.int .i64 13) := fun o1 o2 => by rw [← hk]; exact (cells o1 o2).1
  have c6 : ∀ o1 o2 : Obj, ((w.alloc o1).alloc o2).cell? ⟨b, o + 6, none⟩ = some (.slice y.a y.n y.cap) := fun o1 o2 => (cells o1 o2).2.2.2.2.2.2
  have hB6 : Hid True := trivial
  have hn' : ((y.n : Int) == 2) = true := by simp; omega
  clear hn
  clear hN one cells hB6
  go_enter Tryz.func89, Tryz.ntmps89
  go_wp2_with fail
  go_region
  go_wp2_with fail
  go_wp2_with (go_at_call 104; refine (alone_any b o (w.heap.size + 1) 0 y (X.mk 13 val0 ⟨#[]⟩ ⟨#[]⟩ y.a y.n y.cap y.c) (two1 w b o (X.mk 13 val0 ⟨#[]⟩ ⟨#[]⟩ y.a y.n y.cap y.c)).drew (hE.out (X.mk 13 val0 ⟨#[]⟩ ⟨#[]⟩ y.a y.n y.cap y.c)).2.1 (hE.out (X.mk 13 val0 ⟨#[]⟩ ⟨#[]⟩ y.a y.n y.cap y.c)).2.2.1).mono ?_; rintro e x9 ⟨rfl, hN9⟩)
  go_ret
  have hT9 : Below (two1 w b o (X.mk 13 val0 ⟨#[]⟩ ⟨#[]⟩ y.a y.n y.cap y.c)).heap.size (two1 w b o (X.mk 13 val0 ⟨#[]⟩ ⟨#[]⟩ y.a y.n y.cap y.c)) x9 := undrawn hN9 rfl rfl rfl rfl
  exact ⟨rfl, (hE.out (X.mk 13 val0 ⟨#[]⟩ ⟨#[]⟩ y.a y.n y.cap y.c)).2.2.2.trans (hT9.mono (hE.out (X.mk 13 val0 ⟨#[]⟩ ⟨#[]⟩ y.a y.n y.cap y.c)).2.2.2.size)⟩
set_option maxRecDepth 100000 in
set_option maxHeartbeats 2000000 in
theorem right_13_f (b o : Nat) (y : X) (w : World) (hN : Node w b o y) (hk : y.k = 13) (hn : ¬ y.n = 2) :
    Calls Tryz.prog 89 #[.pointer (some ⟨b, o, none⟩)] w fun e w' => e = .returned (.bool false) ∧ Below w.heap.size w w' := by
  have hE : Hid (∀ q : X, Boxed (two1 w b o q) w.heap.size 123 (.pointer (some ⟨b, o, none⟩)) ∧ Node (two1 w b o q) b o y ∧ Node (two1 w b o q) (w.heap.size + 1) 0 q ∧ Below w.heap.size w (two1 w b o q)) := fun q => two1_facts w b o y q hN
  have one : ∀ o1 : Obj, Node (w.alloc o1) b o y := fun o1 => hN.later ((Below.refl _ w).alloc (Nat.le_refl _) _)
  have cells : ∀ o1 o2 : Obj, Node ((w.alloc o1).alloc o2) b o y := fun o1 o2 => hN.later (((Below.refl _ w).alloc (Nat.le_refl _) _).alloc (by simp) _)
  have a0 : ∀ o1 : Obj, (w.alloc o1).cell? ⟨b, o, none⟩ = some (.int .i64 13) := fun o1 => by rw [← hk]; exact (one o1).1
  have a6 : ∀ o1 : Obj, (w.alloc o1).cell? ⟨b, o + 6, none⟩ = some (.slice y.a y.n y.cap) := fun o1 => (one o1).2.2.2.2.2.2
  have c0 : ∀ o1 o2 : Obj, ((w.alloc o1).alloc o2).cell? ⟨b, o, none⟩ = some (.int .i64 13) := fun o1 o2 => by rw [← hk]; exact (cells o1 o2).1
  have c6 : ∀ o1 o2 : Obj, ((w.alloc o1).alloc o2).cell? ⟨b, o + 6, none⟩ = some (.slice y.a y.n y.cap) := fun o1 o2 => (cells o1 o2).2.2.2.2.2.2
  have hB6 : Hid True := trivial
  have hn' : ((y.n : Int) == 2) = false := by simp; omega
  clear hn
  clear hN one cells hB6
  go_enter Tryz.func89, Tryz.ntmps89
  go_wp2_with fail
  go_region
  go_wp2_with fail
  go_wp2
  go_ret
  exact ⟨rfl, (hE.out (X.mk 13 val0 ⟨#[]⟩ ⟨#[]⟩ y.a y.n y.cap y.c)).2.2.2.drew⟩
set_option maxRecDepth 100000 in
set_option maxHeartbeats 2000000 in
theorem right_14_t (b o : Nat) (y : X) (w : World) (hN : Node w b o y) (hk : y.k = 14) (hn : y.n = 2) :
    Calls Tryz.prog 89 #[.pointer (some ⟨b, o, none⟩)] w fun e w' => e = .returned (.bool (alZ y (X.mk 14 val0 ⟨#[]⟩ ⟨#[]⟩ y.a y.n y.cap y.c) == 0)) ∧ Below w.heap.size w w' := by
  have hE : Hid (∀ q : X, Boxed (two1 w b o q) w.heap.size 123 (.pointer (some ⟨b, o, none⟩)) ∧ Node (two1 w b o q) b o y ∧ Node (two1 w b o q) (w.heap.size + 1) 0 q ∧ Below w.heap.size w (two1 w b o q)) := fun q => two1_facts w b o y q hN
  have one : ∀ o1 : Obj, Node (w.alloc o1) b o y := fun o1 => hN.later ((Below.refl _ w).alloc (Nat.le_refl _) _)
  have cells : ∀ o1 o2 : Obj, Node ((w.alloc o1).alloc o2) b o y := fun o1 o2 => hN.later (((Below.refl _ w).alloc (Nat.le_refl _) _).alloc (by simp) _)
  have a0 : ∀ o1 : Obj, (w.alloc o1).cell? ⟨b, o, none⟩ = some (.int .i64 14) := fun o1 => by rw [← hk]; exact (one o1).1
  have a6 : ∀ o1 : Obj, (w.alloc o1).cell? ⟨b, o + 6, none⟩ = some (.slice y.a y.n y.cap) := fun o1 => (one o1).2.2.2.2.2.2
  have c0 : ∀ o1 o2 : Obj, ((w.alloc o1).alloc o2).cell? ⟨b, o, none⟩ = some (.int .i64 14) := fun o1 o2 => by rw [← hk]; exact (cells o1 o2).1
  have c6 : ∀ o1 o2 : Obj, ((w.alloc o1).alloc o2).cell? ⟨b, o + 6, none⟩ = some (.slice y.a y.n y.cap) := fun o1 o2 => (cells o1 o2).2.2.2.2.2.2
  have hB6 : Hid True := trivial
  have hn' : ((y.n : Int) == 2) = true := by simp; omega
  clear hn
  clear hN one cells hB6
  go_enter Tryz.func89, Tryz.ntmps89
  go_wp2_with fail
  go_region
  go_wp2_with fail
  go_wp2_with (go_at_call 104; refine (alone_any b o (w.heap.size + 1) 0 y (X.mk 14 val0 ⟨#[]⟩ ⟨#[]⟩ y.a y.n y.cap y.c) (two1 w b o (X.mk 14 val0 ⟨#[]⟩ ⟨#[]⟩ y.a y.n y.cap y.c)).drew (hE.out (X.mk 14 val0 ⟨#[]⟩ ⟨#[]⟩ y.a y.n y.cap y.c)).2.1 (hE.out (X.mk 14 val0 ⟨#[]⟩ ⟨#[]⟩ y.a y.n y.cap y.c)).2.2.1).mono ?_; rintro e x9 ⟨rfl, hN9⟩)
  go_ret
  have hT9 : Below (two1 w b o (X.mk 14 val0 ⟨#[]⟩ ⟨#[]⟩ y.a y.n y.cap y.c)).heap.size (two1 w b o (X.mk 14 val0 ⟨#[]⟩ ⟨#[]⟩ y.a y.n y.cap y.c)) x9 := undrawn hN9 rfl rfl rfl rfl
  exact ⟨rfl, (hE.out (X.mk 14 val0 ⟨#[]⟩ ⟨#[]⟩ y.a y.n y.cap y.c)).2.2.2.trans (hT9.mono (hE.out (X.mk 14 val0 ⟨#[]⟩ ⟨#[]⟩ y.a y.n y.cap y.c)).2.2.2.size)⟩
set_option maxRecDepth 100000 in
set_option maxHeartbeats 2000000 in
theorem right_14_f (b o : Nat) (y : X) (w : World) (hN : Node w b o y) (hk : y.k = 14) (hn : ¬ y.n = 2) :
    Calls Tryz.prog 89 #[.pointer (some ⟨b, o, none⟩)] w fun e w' => e = .returned (.bool false) ∧ Below w.heap.size w w' := by
  have hE : Hid (∀ q : X, Boxed (two1 w b o q) w.heap.size 123 (.pointer (some ⟨b, o, none⟩)) ∧ Node (two1 w b o q) b o y ∧ Node (two1 w b o q) (w.heap.size + 1) 0 q ∧ Below w.heap.size w (two1 w b o q)) := fun q => two1_facts w b o y q hN
  have one : ∀ o1 : Obj, Node (w.alloc o1) b o y := fun o1 => hN.later ((Below.refl _ w).alloc (Nat.le_refl _) _)
  have cells : ∀ o1 o2 : Obj, Node ((w.alloc o1).alloc o2) b o y := fun o1 o2 => hN.later (((Below.refl _ w).alloc (Nat.le_refl _) _).alloc (by simp) _)
  have a0 : ∀ o1 : Obj, (w.alloc o1).cell? ⟨b, o, none⟩ = some (.int .i64 14) := fun o1 => by rw [← hk]; exact (one o1).1
  have a6 : ∀ o1 : Obj, (w.alloc o1).cell? ⟨b, o + 6, none⟩ = some (.slice y.a y.n y.cap) := fun o1 => (one o1).2.2.2.2.2.2
  have c0 : ∀ o1 o2 : Obj, ((w.alloc o1).alloc o2).cell? ⟨b, o, none⟩ = some (.int .i64 14) := fun o1 o2 => by rw [← hk]; exact (cells o1 o2).1
  have c6 : ∀ o1 o2 : Obj, ((w.alloc o1).alloc o2).cell? ⟨b, o + 6, none⟩ = some (.slice y.a y.n y.cap) := fun o1 o2 => (cells o1 o2).2.2.2.2.2.2
  have hB6 : Hid True := trivial
  have hn' : ((y.n : Int) == 2) = false := by simp; omega
  clear hn
  clear hN one cells hB6
  go_enter Tryz.func89, Tryz.ntmps89
  go_wp2_with fail
  go_region
  go_wp2_with fail
  go_wp2
  go_ret
  exact ⟨rfl, (hE.out (X.mk 14 val0 ⟨#[]⟩ ⟨#[]⟩ y.a y.n y.cap y.c)).2.2.2.drew⟩
end Go.Proofs.YtfnfegcjgnbgbaaGreatDoor
namespace Go.Proofs.YtfnfegcjgnbgbaaGreatDoor
open Go.RowKit

set_option maxRecDepth 100000 in
set_option maxHeartbeats 2000000 in
theorem right_16_few (b o : Nat) (y : X) (w : World) (hN : Node w b o y) (hk : y.k = 16) (hn : ¬ 2 ≤ y.n) :
    Calls Tryz.prog 89 #[.pointer (some ⟨b, o, none⟩)] w fun e w' => e = .returned (.bool false) ∧ Below w.heap.size w w' := by
  have hE : Hid (∀ q : X, Boxed (two1 w b o q) w.heap.size 123 (.pointer (some ⟨b, o, none⟩)) ∧ Node (two1 w b o q) b o y ∧ Node (two1 w b o q) (w.heap.size + 1) 0 q ∧ Below w.heap.size w (two1 w b o q)) := fun q => two1_facts w b o y q hN
  have one : ∀ o1 : Obj, Node (w.alloc o1) b o y := fun o1 => hN.later ((Below.refl _ w).alloc (Nat.le_refl _) _)
  have cells : ∀ o1 o2 : Obj, Node ((w.alloc o1).alloc o2) b o y := fun o1 o2 => hN.later (((Below.refl _ w).alloc (Nat.le_refl _) _).alloc (by simp) _)
  have a0 : ∀ o1 : Obj, (w.alloc o1).cell? ⟨b, o, none⟩ = some (.int .i64 16) := fun o1 => by rw [← hk]; exact (one o1).1
  have a6 : ∀ o1 : Obj, (w.alloc o1).cell? ⟨b, o + 6, none⟩ = some (.slice y.a y.n y.cap) := fun o1 => (one o1).2.2.2.2.2.2
  have c0 : ∀ o1 o2 : Obj, ((w.alloc o1).alloc o2).cell? ⟨b, o, none⟩ = some (.int .i64 16) := fun o1 o2 => by rw [← hk]; exact (cells o1 o2).1
  have c6 : ∀ o1 o2 : Obj, ((w.alloc o1).alloc o2).cell? ⟨b, o + 6, none⟩ = some (.slice y.a y.n y.cap) := fun o1 o2 => (cells o1 o2).2.2.2.2.2.2
  have hB6 : Hid True := trivial
  have hn' : ¬ (2 : Int) ≤ (y.n : Int) := by omega
  clear hn
  clear hN one cells hB6
  go_enter Tryz.func89, Tryz.ntmps89
  go_wp2_with fail
  go_region
  go_wp2_with fail
  go_wp2
  go_ret
  exact ⟨rfl, (hE.out (X.mk 16 val0 ⟨#[]⟩ ⟨#[]⟩ y.a y.n y.cap y.c)).2.2.2.drew⟩
set_option maxRecDepth 100000 in
set_option maxHeartbeats 2000000 in
theorem right_16_true (b o : Nat) (y : X) (w : World) (hN : Node w b o y) (hY : IsX w y) (hk : y.k = 16) (hn : 2 ≤ y.n) (hx : ∃ i, i < y.n ∧ (y.c i).k = y.k) :
    Calls Tryz.prog 89 #[.pointer (some ⟨b, o, none⟩)] w fun e w' => e = .returned (.bool false) ∧ Below w.heap.size w w' := by
  have hE : Hid (∀ q : X, Boxed (two1 w b o q) w.heap.size 123 (.pointer (some ⟨b, o, none⟩)) ∧ Node (two1 w b o q) b o y ∧ Node (two1 w b o q) (w.heap.size + 1) 0 q ∧ Below w.heap.size w (two1 w b o q)) := fun q => two1_facts w b o y q hN
  have one : ∀ o1 : Obj, Node (w.alloc o1) b o y := fun o1 => hN.later ((Below.refl _ w).alloc (Nat.le_refl _) _)
  have cells : ∀ o1 o2 : Obj, Node ((w.alloc o1).alloc o2) b o y := fun o1 o2 => hN.later (((Below.refl _ w).alloc (Nat.le_refl _) _).alloc (by simp) _)
  have a0 : ∀ o1 : Obj, (w.alloc o1).cell? ⟨b, o, none⟩ = some (.int .i64 16) := fun o1 => by rw [← hk]; exact (one o1).1
  have a6 : ∀ o1 : Obj, (w.alloc o1).cell? ⟨b, o + 6, none⟩ = some (.slice y.a y.n y.cap) := fun o1 => (one o1).2.2.2.2.2.2
  have c0 : ∀ o1 o2 : Obj, ((w.alloc o1).alloc o2).cell? ⟨b, o, none⟩ = some (.int .i64 16) := fun o1 o2 => by rw [← hk]; exact (cells o1 o2).1
  have c6 : ∀ o1 o2 : Obj, ((w.alloc o1).alloc o2).cell? ⟨b, o + 6, none⟩ = some (.slice y.a y.n y.cap) := fun o1 o2 => (cells o1 o2).2.2.2.2.2.2
  have hB6 : Hid True := trivial
  have hn' : (2 : Int) ≤ (y.n : Int) := by omega
  have hR : Hid (Calls Tryz.prog 70 #[.slice y.a y.n y.cap, .func (.func 103) #[] #[.pointer (some ⟨w.heap.size, 0, none⟩)]] (two1 w b o (X.mk 16 val0 ⟨#[]⟩ ⟨#[]⟩ y.a y.n y.cap y.c)).drew fun e w' => e = .returned (.bool true) ∧ Below (two1 w b o (X.mk 16 val0 ⟨#[]⟩ ⟨#[]⟩ y.a y.n y.cap y.c)).drew.heap.size (two1 w b o (X.mk 16 val0 ⟨#[]⟩ ⟨#[]⟩ y.a y.n y.cap y.c)).drew w') := by
    refine (kinds_any y w.heap.size b o y.k _ ((hY.later (hE.out (X.mk 16 val0 ⟨#[]⟩ ⟨#[]⟩ y.a y.n y.cap y.c)).2.2.2.drew)) (hE.out (X.mk 16 val0 ⟨#[]⟩ ⟨#[]⟩ y.a y.n y.cap y.c)).1.cell (hE.out (X.mk 16 val0 ⟨#[]⟩ ⟨#[]⟩ y.a y.n y.cap y.c)).2.1.1).mono ?_
    rintro e w' ⟨r, rfl, hr, hB⟩
    refine ⟨ret_bool ?_, hB⟩
    cases r with
    | true => rfl
    | false => exact absurd (hr.2 hx) (by simp)
  clear hn hx hY
  clear hN one cells hB6
  go_enter Tryz.func89, Tryz.ntmps89
  go_wp2_with fail
  go_region
  go_wp2_with fail
  go_wp2_with (first
    | (go_at_call 70; refine (hR.out).mono ?_; rintro e x1 ⟨rfl, hN1⟩; have hT1 : Below (two1 w b o (X.mk 16 val0 ⟨#[]⟩ ⟨#[]⟩ y.a y.n y.cap y.c)).heap.size (two1 w b o (X.mk 16 val0 ⟨#[]⟩ ⟨#[]⟩ y.a y.n y.cap y.c)) x1 := undrawn hN1 rfl rfl rfl rfl; clear hN1; have bx1 := (on_box (hE.out (X.mk 16 val0 ⟨#[]⟩ ⟨#[]⟩ y.a y.n y.cap y.c)).1 hT1).cell))
  go_ret
  exact ⟨rfl, (hE.out (X.mk 16 val0 ⟨#[]⟩ ⟨#[]⟩ y.a y.n y.cap y.c)).2.2.2.trans (hT1.mono (hE.out (X.mk 16 val0 ⟨#[]⟩ ⟨#[]⟩ y.a y.n y.cap y.c)).2.2.2.size)⟩
set_option maxRecDepth 100000 in
set_option maxHeartbeats 2000000 in
theorem right_16_false (b o : Nat) (y : X) (w : World) (hN : Node w b o y) (hY : IsX w y) (hk : y.k = 16) (hn : 2 ≤ y.n) (hx : ¬ ∃ i, i < y.n ∧ (y.c i).k = y.k) :
    Calls Tryz.prog 89 #[.pointer (some ⟨b, o, none⟩)] w fun e w' => e = .returned (.bool (alZ y (X.mk 16 val0 ⟨#[]⟩ ⟨#[]⟩ y.a y.n y.cap y.c) == 0)) ∧ Below w.heap.size w w' := by
  have hE : Hid (∀ q : X, Boxed (two1 w b o q) w.heap.size 123 (.pointer (some ⟨b, o, none⟩)) ∧ Node (two1 w b o q) b o y ∧ Node (two1 w b o q) (w.heap.size + 1) 0 q ∧ Below w.heap.size w (two1 w b o q)) := fun q => two1_facts w b o y q hN
  have one : ∀ o1 : Obj, Node (w.alloc o1) b o y := fun o1 => hN.later ((Below.refl _ w).alloc (Nat.le_refl _) _)
  have cells : ∀ o1 o2 : Obj, Node ((w.alloc o1).alloc o2) b o y := fun o1 o2 => hN.later (((Below.refl _ w).alloc (Nat.le_refl _) _).alloc (by simp) _)
  have a0 : ∀ o1 : Obj, (w.alloc o1).cell? ⟨b, o, none⟩ = some (.int .i64 16) := fun o1 => by rw [← hk]; exact (one o1).1
  have a6 : ∀ o1 : Obj, (w.alloc o1).cell? ⟨b, o + 6, none⟩ = some (.slice y.a y.n y.cap) := fun o1 => (one o1).2.2.2.2.2.2
  have c0 : ∀ o1 o2 : Obj, ((w.alloc o1).alloc o2).cell? ⟨b, o, none⟩ = some (.int .i64 16) := fun o1 o2 => by rw [← hk]; exact (cells o1 o2).1
  have c6 : ∀ o1 o2 : Obj, ((w.alloc o1).alloc o2).cell? ⟨b, o + 6, none⟩ = some (.slice y.a y.n y.cap) := fun o1 o2 => (cells o1 o2).2.2.2.2.2.2
  have hB6 : Hid True := trivial
  have hn' : (2 : Int) ≤ (y.n : Int) := by omega
  have hR : Hid (Calls Tryz.prog 70 #[.slice y.a y.n y.cap, .func (.func 103) #[] #[.pointer (some ⟨w.heap.size, 0, none⟩)]] (two1 w b o (X.mk 16 val0 ⟨#[]⟩ ⟨#[]⟩ y.a y.n y.cap y.c)).drew fun e w' => e = .returned (.bool false) ∧ Below (two1 w b o (X.mk 16 val0 ⟨#[]⟩ ⟨#[]⟩ y.a y.n y.cap y.c)).drew.heap.size (two1 w b o (X.mk 16 val0 ⟨#[]⟩ ⟨#[]⟩ y.a y.n y.cap y.c)).drew w') := by
    refine (kinds_any y w.heap.size b o y.k _ ((hY.later (hE.out (X.mk 16 val0 ⟨#[]⟩ ⟨#[]⟩ y.a y.n y.cap y.c)).2.2.2.drew)) (hE.out (X.mk 16 val0 ⟨#[]⟩ ⟨#[]⟩ y.a y.n y.cap y.c)).1.cell (hE.out (X.mk 16 val0 ⟨#[]⟩ ⟨#[]⟩ y.a y.n y.cap y.c)).2.1.1).mono ?_
    rintro e w' ⟨r, rfl, hr, hB⟩
    refine ⟨ret_bool ?_, hB⟩
    cases r with
    | true => exact absurd (hr.1 rfl) hx
    | false => rfl
  clear hn hx hY
  clear hN one cells hB6
  go_enter Tryz.func89, Tryz.ntmps89
  go_wp2_with fail
  go_region
  go_wp2_with fail
  go_wp2_with (first
    | (go_at_call 70; refine (hR.out).mono ?_; rintro e x1 ⟨rfl, hN1⟩; have hT1 : Below (two1 w b o (X.mk 16 val0 ⟨#[]⟩ ⟨#[]⟩ y.a y.n y.cap y.c)).heap.size (two1 w b o (X.mk 16 val0 ⟨#[]⟩ ⟨#[]⟩ y.a y.n y.cap y.c)) x1 := undrawn hN1 rfl rfl rfl rfl; clear hN1; have bx1 := (on_box (hE.out (X.mk 16 val0 ⟨#[]⟩ ⟨#[]⟩ y.a y.n y.cap y.c)).1 hT1).cell)
    | (go_at_call 104; refine (alone_any b o (w.heap.size + 1) 0 y (X.mk 16 val0 ⟨#[]⟩ ⟨#[]⟩ y.a y.n y.cap y.c) _ ((hE.out (X.mk 16 val0 ⟨#[]⟩ ⟨#[]⟩ y.a y.n y.cap y.c)).2.1.later hT1) ((hE.out (X.mk 16 val0 ⟨#[]⟩ ⟨#[]⟩ y.a y.n y.cap y.c)).2.2.1.later hT1)).mono ?_; rintro e x9 ⟨rfl, hN9⟩))
  go_ret
  exact ⟨rfl, (hE.out (X.mk 16 val0 ⟨#[]⟩ ⟨#[]⟩ y.a y.n y.cap y.c)).2.2.2.trans ((hT1.trans (hN9.mono hT1.size)).mono (hE.out (X.mk 16 val0 ⟨#[]⟩ ⟨#[]⟩ y.a y.n y.cap y.c)).2.2.2.size)⟩
set_option maxRecDepth 100000 in
set_option maxHeartbeats 2000000 in
theorem right_17_few (b o : Nat) (y : X) (w : World) (hN : Node w b o y) (hk : y.k = 17) (hn : ¬ 2 ≤ y.n) :
    Calls Tryz.prog 89 #[.pointer (some ⟨b, o, none⟩)] w fun e w' => e = .returned (.bool false) ∧ Below w.heap.size w w' := by
  have hE : Hid (∀ q : X, Boxed (two1 w b o q) w.heap.size 123 (.pointer (some ⟨b, o, none⟩)) ∧ Node (two1 w b o q) b o y ∧ Node (two1 w b o q) (w.heap.size + 1) 0 q ∧ Below w.heap.size w (two1 w b o q)) := fun q => two1_facts w b o y q hN
  have one : ∀ o1 : Obj, Node (w.alloc o1) b o y := fun o1 => hN.later ((Below.refl _ w).alloc (Nat.le_refl _) _)
  have cells : ∀ o1 o2 : Obj, Node ((w.alloc o1).alloc o2) b o y := fun o1 o2 => hN.later (((Below.refl _ w).alloc (Nat.le_refl _) _).alloc (by simp) _)
  have a0 : ∀ o1 : Obj, (w.alloc o1).cell? ⟨b, o, none⟩ = some (.int .i64 17) := fun o1 => by rw [← hk]; exact (one o1).1
  have a6 : ∀ o1 : Obj, (w.alloc o1).cell? ⟨b, o + 6, none⟩ = some (.slice y.a y.n y.cap) := fun o1 => (one o1).2.2.2.2.2.2
  have c0 : ∀ o1 o2 : Obj, ((w.alloc o1).alloc o2).cell? ⟨b, o, none⟩ = some (.int .i64 17) := fun o1 o2 => by rw [← hk]; exact (cells o1 o2).1
  have c6 : ∀ o1 o2 : Obj, ((w.alloc o1).alloc o2).cell? ⟨b, o + 6, none⟩ = some (.slice y.a y.n y.cap) := fun o1 o2 => (cells o1 o2).2.2.2.2.2.2
  have hB6 : Hid True := trivial
  have hn' : ¬ (2 : Int) ≤ (y.n : Int) := by omega
  clear hn
  clear hN one cells hB6
  go_enter Tryz.func89, Tryz.ntmps89
  go_wp2_with fail
  go_region
  go_wp2_with fail
  go_wp2
  go_ret
  exact ⟨rfl, (hE.out (X.mk 17 val0 ⟨#[]⟩ ⟨#[]⟩ y.a y.n y.cap y.c)).2.2.2.drew⟩
set_option maxRecDepth 100000 in
set_option maxHeartbeats 2000000 in
theorem right_17_true (b o : Nat) (y : X) (w : World) (hN : Node w b o y) (hY : IsX w y) (hk : y.k = 17) (hn : 2 ≤ y.n) (hx : ∃ i, i < y.n ∧ (y.c i).k = y.k) :
    Calls Tryz.prog 89 #[.pointer (some ⟨b, o, none⟩)] w fun e w' => e = .returned (.bool false) ∧ Below w.heap.size w w' := by
  have hE : Hid (∀ q : X, Boxed (two1 w b o q) w.heap.size 123 (.pointer (some ⟨b, o, none⟩)) ∧ Node (two1 w b o q) b o y ∧ Node (two1 w b o q) (w.heap.size + 1) 0 q ∧ Below w.heap.size w (two1 w b o q)) := fun q => two1_facts w b o y q hN
  have one : ∀ o1 : Obj, Node (w.alloc o1) b o y := fun o1 => hN.later ((Below.refl _ w).alloc (Nat.le_refl _) _)
  have cells : ∀ o1 o2 : Obj, Node ((w.alloc o1).alloc o2) b o y := fun o1 o2 => hN.later (((Below.refl _ w).alloc (Nat.le_refl _) _).alloc (by simp) _)
  have a0 : ∀ o1 : Obj, (w.alloc o1).cell? ⟨b, o, none⟩ = some (.int .i64 17) := fun o1 => by rw [← hk]; exact (one o1).1
  have a6 : ∀ o1 : Obj, (w.alloc o1).cell? ⟨b, o + 6, none⟩ = some (.slice y.a y.n y.cap) := fun o1 => (one o1).2.2.2.2.2.2
  have c0 : ∀ o1 o2 : Obj, ((w.alloc o1).alloc o2).cell? ⟨b, o, none⟩ = some (.int .i64 17) := fun o1 o2 => by rw [← hk]; exact (cells o1 o2).1
  have c6 : ∀ o1 o2 : Obj, ((w.alloc o1).alloc o2).cell? ⟨b, o + 6, none⟩ = some (.slice y.a y.n y.cap) := fun o1 o2 => (cells o1 o2).2.2.2.2.2.2
  have hB6 : Hid True := trivial
  have hn' : (2 : Int) ≤ (y.n : Int) := by omega
  have hR : Hid (Calls Tryz.prog 70 #[.slice y.a y.n y.cap, .func (.func 103) #[] #[.pointer (some ⟨w.heap.size, 0, none⟩)]] (two1 w b o (X.mk 17 val0 ⟨#[]⟩ ⟨#[]⟩ y.a y.n y.cap y.c)).drew fun e w' => e = .returned (.bool true) ∧ Below (two1 w b o (X.mk 17 val0 ⟨#[]⟩ ⟨#[]⟩ y.a y.n y.cap y.c)).drew.heap.size (two1 w b o (X.mk 17 val0 ⟨#[]⟩ ⟨#[]⟩ y.a y.n y.cap y.c)).drew w') := by
    refine (kinds_any y w.heap.size b o y.k _ ((hY.later (hE.out (X.mk 17 val0 ⟨#[]⟩ ⟨#[]⟩ y.a y.n y.cap y.c)).2.2.2.drew)) (hE.out (X.mk 17 val0 ⟨#[]⟩ ⟨#[]⟩ y.a y.n y.cap y.c)).1.cell (hE.out (X.mk 17 val0 ⟨#[]⟩ ⟨#[]⟩ y.a y.n y.cap y.c)).2.1.1).mono ?_
    rintro e w' ⟨r, rfl, hr, hB⟩
    refine ⟨ret_bool ?_, hB⟩
    cases r with
    | true => rfl
    | false => exact absurd (hr.2 hx) (by simp)
  clear hn hx hY
  clear hN one cells hB6
  go_enter Tryz.func89, Tryz.ntmps89
  go_wp2_with fail
  go_region
  go_wp2_with fail
  go_wp2_with (first
    | (go_at_call 70; refine (hR.out).mono ?_; rintro e x1 ⟨rfl, hN1⟩; have hT1 : Below (two1 w b o (X.mk 17 val0 ⟨#[]⟩ ⟨#[]⟩ y.a y.n y.cap y.c)).heap.size (two1 w b o (X.mk 17 val0 ⟨#[]⟩ ⟨#[]⟩ y.a y.n y.cap y.c)) x1 := undrawn hN1 rfl rfl rfl rfl; clear hN1; have bx1 := (on_box (hE.out (X.mk 17 val0 ⟨#[]⟩ ⟨#[]⟩ y.a y.n y.cap y.c)).1 hT1).cell))
  go_ret
  exact ⟨rfl, (hE.out (X.mk 17 val0 ⟨#[]⟩ ⟨#[]⟩ y.a y.n y.cap y.c)).2.2.2.trans (hT1.mono (hE.out (X.mk 17 val0 ⟨#[]⟩ ⟨#[]⟩ y.a y.n y.cap y.c)).2.2.2.size)⟩
set_option maxRecDepth 100000 in
set_option maxHeartbeats 2000000 in
theorem right_17_false (b o : Nat) (y : X) (w : World) (hN : Node w b o y) (hY : IsX w y) (hk : y.k = 17) (hn : 2 ≤ y.n) (hx : ¬ ∃ i, i < y.n ∧ (y.c i).k = y.k) :
    Calls Tryz.prog 89 #[.pointer (some ⟨b, o, none⟩)] w fun e w' => e = .returned (.bool (alZ y (X.mk 17 val0 ⟨#[]⟩ ⟨#[]⟩ y.a y.n y.cap y.c) == 0)) ∧ Below w.heap.size w w' := by
  have hE : Hid (∀ q : X, Boxed (two1 w b o q) w.heap.size 123 (.pointer (some ⟨b, o, none⟩)) ∧ Node (two1 w b o q) b o y ∧ Node (two1 w b o q) (w.heap.size + 1) 0 q ∧ Below w.heap.size w (two1 w b o q)) := fun q => two1_facts w b o y q hN
  have one : ∀ o1 : Obj, Node (w.alloc o1) b o y := fun o1 => hN.later ((Below.refl _ w).alloc (Nat.le_refl _) _)
  have cells : ∀ o1 o2 : Obj, Node ((w.alloc o1).alloc o2) b o y := fun o1 o2 => hN.later (((Below.refl _ w).alloc (Nat.le_refl _) _).alloc (by simp) _)
  have a0 : ∀ o1 : Obj, (w.alloc o1).cell? ⟨b, o, none⟩ = some (.int .i64 17) := fun o1 => by rw [← hk]; exact (one o1).1
  have a6 : ∀ o1 : Obj, (w.alloc o1).cell? ⟨b, o + 6, none⟩ = some (.slice y.a y.n y.cap) := fun o1 => (one o1).2.2.2.2.2.2
  have c0 : ∀ o1 o2 : Obj, ((w.alloc o1).alloc o2).cell? ⟨b, o, none⟩ = some (.int .i64 17) := fun o1 o2 => by rw [← hk]; exact (cells o1 o2).1
  have c6 : ∀ o1 o2 : Obj, ((w.alloc o1).alloc o2).cell? ⟨b, o + 6, none⟩ = some (.slice y.a y.n y.cap) := fun o1 o2 => (cells o1 o2).2.2.2.2.2.2
  have hB6 : Hid True := trivial
  have hn' : (2 : Int) ≤ (y.n : Int) := by omega
  have hR : Hid (Calls Tryz.prog 70 #[.slice y.a y.n y.cap, .func (.func 103) #[] #[.pointer (some ⟨w.heap.size, 0, none⟩)]] (two1 w b o (X.mk 17 val0 ⟨#[]⟩ ⟨#[]⟩ y.a y.n y.cap y.c)).drew fun e w' => e = .returned (.bool false) ∧ Below (two1 w b o (X.mk 17 val0 ⟨#[]⟩ ⟨#[]⟩ y.a y.n y.cap y.c)).drew.heap.size (two1 w b o (X.mk 17 val0 ⟨#[]⟩ ⟨#[]⟩ y.a y.n y.cap y.c)).drew w') := by
    refine (kinds_any y w.heap.size b o y.k _ ((hY.later (hE.out (X.mk 17 val0 ⟨#[]⟩ ⟨#[]⟩ y.a y.n y.cap y.c)).2.2.2.drew)) (hE.out (X.mk 17 val0 ⟨#[]⟩ ⟨#[]⟩ y.a y.n y.cap y.c)).1.cell (hE.out (X.mk 17 val0 ⟨#[]⟩ ⟨#[]⟩ y.a y.n y.cap y.c)).2.1.1).mono ?_
    rintro e w' ⟨r, rfl, hr, hB⟩
    refine ⟨ret_bool ?_, hB⟩
    cases r with
    | true => exact absurd (hr.1 rfl) hx
    | false => rfl
  clear hn hx hY
  clear hN one cells hB6
  go_enter Tryz.func89, Tryz.ntmps89
  go_wp2_with fail
  go_region
  go_wp2_with fail
  go_wp2_with (first
    | (go_at_call 70; refine (hR.out).mono ?_; rintro e x1 ⟨rfl, hN1⟩; have hT1 : Below (two1 w b o (X.mk 17 val0 ⟨#[]⟩ ⟨#[]⟩ y.a y.n y.cap y.c)).heap.size (two1 w b o (X.mk 17 val0 ⟨#[]⟩ ⟨#[]⟩ y.a y.n y.cap y.c)) x1 := undrawn hN1 rfl rfl rfl rfl; clear hN1; have bx1 := (on_box (hE.out (X.mk 17 val0 ⟨#[]⟩ ⟨#[]⟩ y.a y.n y.cap y.c)).1 hT1).cell)
    | (go_at_call 104; refine (alone_any b o (w.heap.size + 1) 0 y (X.mk 17 val0 ⟨#[]⟩ ⟨#[]⟩ y.a y.n y.cap y.c) _ ((hE.out (X.mk 17 val0 ⟨#[]⟩ ⟨#[]⟩ y.a y.n y.cap y.c)).2.1.later hT1) ((hE.out (X.mk 17 val0 ⟨#[]⟩ ⟨#[]⟩ y.a y.n y.cap y.c)).2.2.1.later hT1)).mono ?_; rintro e x9 ⟨rfl, hN9⟩))
  go_ret
  exact ⟨rfl, (hE.out (X.mk 17 val0 ⟨#[]⟩ ⟨#[]⟩ y.a y.n y.cap y.c)).2.2.2.trans ((hT1.trans (hN9.mono hT1.size)).mono (hE.out (X.mk 17 val0 ⟨#[]⟩ ⟨#[]⟩ y.a y.n y.cap y.c)).2.2.2.size)⟩
set_option maxRecDepth 100000 in
set_option maxHeartbeats 2000000 in
theorem right_kind (b o : Nat) (y : X) (w : World) (hN : Node w b o y) (hk : ¬ (1 ≤ y.k ∧ y.k ≤ 17)) :
    Calls Tryz.prog 89 #[.pointer (some ⟨b, o, none⟩)] w fun e w' => e = .returned (.bool false) ∧ Below w.heap.size w w' := by
  have hE : Hid (∀ q : X, Boxed (two1 w b o q) w.heap.size 123 (.pointer (some ⟨b, o, none⟩)) ∧ Node (two1 w b o q) b o y ∧ Node (two1 w b o q) (w.heap.size + 1) 0 q ∧ Below w.heap.size w (two1 w b o q)) := fun q => two1_facts w b o y q hN
  have one : ∀ o1 : Obj, Node (w.alloc o1) b o y := fun o1 => hN.later ((Below.refl _ w).alloc (Nat.le_refl _) _)
  have cells : ∀ o1 o2 : Obj, Node ((w.alloc o1).alloc o2) b o y := fun o1 o2 => hN.later (((Below.refl _ w).alloc (Nat.le_refl _) _).alloc (by simp) _)
  have a0 : ∀ o1 : Obj, (w.alloc o1).cell? ⟨b, o, none⟩ = some (.int .i64 y.k) := fun o1 => (one o1).1
  have a6 : ∀ o1 : Obj, (w.alloc o1).cell? ⟨b, o + 6, none⟩ = some (.slice y.a y.n y.cap) := fun o1 => (one o1).2.2.2.2.2.2
  have c0 : ∀ o1 o2 : Obj, ((w.alloc o1).alloc o2).cell? ⟨b, o, none⟩ = some (.int .i64 y.k) := fun o1 o2 => (cells o1 o2).1
  have c6 : ∀ o1 o2 : Obj, ((w.alloc o1).alloc o2).cell? ⟨b, o + 6, none⟩ = some (.slice y.a y.n y.cap) := fun o1 o2 => (cells o1 o2).2.2.2.2.2.2
  have hB6 : Hid True := trivial
  have e1 : (y.k == 1) = false := by simp; omega
  have e2 : (y.k == 2) = false := by simp; omega
  have e3 : (y.k == 3) = false := by simp; omega
  have e4 : (y.k == 4) = false := by simp; omega
  have e5 : (y.k == 5) = false := by simp; omega
  have e6 : (y.k == 6) = false := by simp; omega
  have e7 : (y.k == 7) = false := by simp; omega
  have e8 : (y.k == 8) = false := by simp; omega
  have e9 : (y.k == 9) = false := by simp; omega
  have e10 : (y.k == 10) = false := by simp; omega
  have e11 : (y.k == 11) = false := by simp; omega
  have e12 : (y.k == 12) = false := by simp; omega
  have e13 : (y.k == 13) = false := by simp; omega
  have e14 : (y.k == 14) = false := by simp; omega
  have e15 : (y.k == 15) = false := by simp; omega
  have e16 : (y.k == 16) = false := by simp; omega
  have e17 : (y.k == 17) = false := by simp; omega
  clear hk
  clear hN one cells hB6
  go_enter Tryz.func89, Tryz.ntmps89
  go_wp2_with fail
  go_region
  go_wp2_with fail
  go_wp2
  go_ret
  exact ⟨rfl, (hE.out (X.mk y.k val0 ⟨#[]⟩ ⟨#[]⟩ y.a y.n y.cap y.c)).2.2.2.drew⟩
end Go.Proofs.YtfnfegcjgnbgbaaGreatDoor
namespace Go.Proofs.YtfnfegcjgnbgbaaGreatDoor
open Go.RowKit

theorem ret_iff {w : World} {f : Nat} {args : Array Value} {r : Bool} {P : Prop} (h : Calls Tryz.prog f args w fun e w' => e = .returned (.bool r) ∧ Below w.heap.size w w') (hr : r = true ↔ P) :
    Calls Tryz.prog f args w fun e w' => ∃ r, e = .returned (.bool r) ∧ (r = true ↔ P) ∧ Below w.heap.size w w' :=
  h.mono fun _ _ ⟨h1, h2⟩ => ⟨r, h1, hr, h2⟩
theorem rightX_any (b o : Nat) (y : X) (w : World) (hN : Node w b o y) (hY : IsX w y) :
    Calls Tryz.prog 89 #[.pointer (some ⟨b, o, none⟩)] w fun e w' => ∃ r, e = .returned (.bool r) ∧ (r = true ↔ NodeR y) ∧ Below w.heap.size w w' := by
  by_cases h1 : y.k = 1
  · have e : ownC y = X.mk 1 y.v ⟨#[]⟩ ⟨#[]⟩ none 0 0 (fun _ => .nil) := by unfold ownC; rw [h1]
    cases hr : rightB y.v.k y.v.n y.v.s with
    | true => exact ret_iff (right_C_true b o y w hN h1 hr) (by rw [nodeR_C y h1, e, hr]; simp)
    | false => exact ret_iff (right_C_false b o y w hN h1 hr) (by rw [nodeR_C y h1, hr]; simp)
  by_cases h2 : y.k = 2
  · have e : ownF y = X.mk 2 val0 y.s y.f none 0 0 (fun _ => .nil) := by unfold ownF; rw [h2]
    cases hs : nameB y.s with
    | false => exact ret_iff (right_F_false b o y w hN h2 hs) (by rw [nodeR_F y h2, hs]; simp)
    | true =>
      cases hf : nameB y.f with
      | false => exact ret_iff (right_F_tfalse b o y w hN h2 hs hf) (by rw [nodeR_F y h2, hf]; simp)
      | true => exact ret_iff (right_F_ttrue b o y w hN h2 hs hf) (by rw [nodeR_F y h2, e, hs, hf]; simp)
  have e : ∀ k : Int, y.k = k → ownP y = X.mk k val0 ⟨#[]⟩ ⟨#[]⟩ y.a y.n y.cap y.c := fun k hk => by unfold ownP; rw [hk]
  by_cases h3 : y.k = 3
  · by_cases hn : y.n = 1
    · exact ret_iff (right_3_t b o y w hN h3 hn) (by rw [nodeR_one y (by omega), e _ h3]; simp [hn])
    · exact ret_iff (right_3_f b o y w hN h3 hn) (by rw [nodeR_one y (by omega)]; simp [hn])
  by_cases h15 : y.k = 15
  · by_cases hn : y.n = 1
    · exact ret_iff (right_15_t b o y w hN h15 hn) (by rw [nodeR_one y (by omega), e _ h15]; simp [hn])
    · exact ret_iff (right_15_f b o y w hN h15 hn) (by rw [nodeR_one y (by omega)]; simp [hn])
  by_cases h4 : y.k = 4
  · by_cases hn : y.n = 2
    · exact ret_iff (right_4_t b o y w hN h4 hn) (by rw [nodeR_two y (by omega), e _ h4]; simp [hn])
    · exact ret_iff (right_4_f b o y w hN h4 hn) (by rw [nodeR_two y (by omega)]; simp [hn])
  by_cases h5 : y.k = 5
  · by_cases hn : y.n = 2
    · exact ret_iff (right_5_t b o y w hN h5 hn) (by rw [nodeR_two y (by omega), e _ h5]; simp [hn])
    · exact ret_iff (right_5_f b o y w hN h5 hn) (by rw [nodeR_two y (by omega)]; simp [hn])
  by_cases h6 : y.k = 6
  · by_cases hn : y.n = 2
    · exact ret_iff (right_6_t b o y w hN h6 hn) (by rw [nodeR_two y (by omega), e _ h6]; simp [hn])
    · exact ret_iff (right_6_f b o y w hN h6 hn) (by rw [nodeR_two y (by omega)]; simp [hn])
  by_cases h7 : y.k = 7
  · by_cases hn : y.n = 2
    · exact ret_iff (right_7_t b o y w hN h7 hn) (by rw [nodeR_two y (by omega), e _ h7]; simp [hn])
    · exact ret_iff (right_7_f b o y w hN h7 hn) (by rw [nodeR_two y (by omega)]; simp [hn])
  by_cases h8 : y.k = 8
  · by_cases hn : y.n = 2
    · exact ret_iff (right_8_t b o y w hN h8 hn) (by rw [nodeR_two y (by omega), e _ h8]; simp [hn])
    · exact ret_iff (right_8_f b o y w hN h8 hn) (by rw [nodeR_two y (by omega)]; simp [hn])
  by_cases h9 : y.k = 9
  · by_cases hn : y.n = 2
    · exact ret_iff (right_9_t b o y w hN h9 hn) (by rw [nodeR_two y (by omega), e _ h9]; simp [hn])
    · exact ret_iff (right_9_f b o y w hN h9 hn) (by rw [nodeR_two y (by omega)]; simp [hn])
  by_cases h10 : y.k = 10
  · by_cases hn : y.n = 2
    · exact ret_iff (right_10_t b o y w hN h10 hn) (by rw [nodeR_two y (by omega), e _ h10]; simp [hn])
    · exact ret_iff (right_10_f b o y w hN h10 hn) (by rw [nodeR_two y (by omega)]; simp [hn])
  by_cases h11 : y.k = 11
  · by_cases hn : y.n = 2
    · exact ret_iff (right_11_t b o y w hN h11 hn) (by rw [nodeR_two y (by omega), e _ h11]; simp [hn])
    · exact ret_iff (right_11_f b o y w hN h11 hn) (by rw [nodeR_two y (by omega)]; simp [hn])
  by_cases h12 : y.k = 12
  · by_cases hn : y.n = 2
    · exact ret_iff (right_12_t b o y w hN h12 hn) (by rw [nodeR_two y (by omega), e _ h12]; simp [hn])
    · exact ret_iff (right_12_f b o y w hN h12 hn) (by rw [nodeR_two y (by omega)]; simp [hn])
  by_cases h13 : y.k = 13
  · by_cases hn : y.n = 2
    · exact ret_iff (right_13_t b o y w hN h13 hn) (by rw [nodeR_two y (by omega), e _ h13]; simp [hn])
    · exact ret_iff (right_13_f b o y w hN h13 hn) (by rw [nodeR_two y (by omega)]; simp [hn])
  by_cases h14 : y.k = 14
  · by_cases hn : y.n = 2
    · exact ret_iff (right_14_t b o y w hN h14 hn) (by rw [nodeR_two y (by omega), e _ h14]; simp [hn])
    · exact ret_iff (right_14_f b o y w hN h14 hn) (by rw [nodeR_two y (by omega)]; simp [hn])
  by_cases h16 : y.k = 16
  · by_cases hn : 2 ≤ y.n
    · by_cases hx : ∃ i, i < y.n ∧ (y.c i).k = y.k
      · refine ret_iff (right_16_true b o y w hN hY h16 hn hx) ⟨fun h => (by cases h), fun h => ?_⟩
        obtain ⟨i, hi, he⟩ := hx
        exact absurd he (((nodeR_many y (by omega)).1 h).1.2 i hi)
      · refine ret_iff (right_16_false b o y w hN hY h16 hn hx) ?_
        rw [nodeR_many y (by omega), e _ h16]
        constructor
        · intro h
          exact ⟨⟨hn, fun i hi he => hx ⟨i, hi, he⟩⟩, by simpa using h⟩
        · intro h
          simpa using h.2
    · exact ret_iff (right_16_few b o y w hN h16 hn) ⟨fun h => (by cases h), fun h => absurd ((nodeR_many y (by omega)).1 h).1.1 hn⟩
  by_cases h17 : y.k = 17
  · by_cases hn : 2 ≤ y.n
    · by_cases hx : ∃ i, i < y.n ∧ (y.c i).k = y.k
      · refine ret_iff (right_17_true b o y w hN hY h17 hn hx) ⟨fun h => (by cases h), fun h => ?_⟩
        obtain ⟨i, hi, he⟩ := hx
        exact absurd he (((nodeR_many y (by omega)).1 h).1.2 i hi)
      · refine ret_iff (right_17_false b o y w hN hY h17 hn hx) ?_
        rw [nodeR_many y (by omega), e _ h17]
        constructor
        · intro h
          exact ⟨⟨hn, fun i hi he => hx ⟨i, hi, he⟩⟩, by simpa using h⟩
        · intro h
          simpa using h.2
    · exact ret_iff (right_17_few b o y w hN h17 hn) ⟨fun h => (by cases h), fun h => absurd ((nodeR_many y (by omega)).1 h).1.1 hn⟩
  have hk : ¬ (1 ≤ y.k ∧ y.k ≤ 17) := by omega
  exact ret_iff (right_kind b o y w hN hk) ⟨fun h => (by cases h), fun h => absurd h (nodeR_none y hk)⟩
end Go.Proofs.YtfnfegcjgnbgbaaGreatDoor
