/-
  expr.right at a node that has parts.
  expr.right at XAnd and XOr, and at what is no kind.
  expr.right at any node.
  The document's Size, light and awake.
  expr.Check.
  When a pattern is right: plain facts, of no function.
-/
import Derived.Test.YtkfpgkohkhhlhaaGreatDoorRExprRightCF
import Derived.Test.YtkfpgkohkhhlhaaGreatDoorRPatBase
import Derived.Test.YtkfpgkohkhhlhaaGreatDoorRExprAlone
namespace Go.Proofs.YtkfpgkohkhhlhaaGreatDoor
open Go.RowKit

set_option maxRecDepth 100000 in
set_option maxHeartbeats 2000000 in
theorem right_11_t (b o : Nat) (y : X) (w : World) (hN : Node w b o y) (hk : y.k = 11) (hn : y.n = 2) :
    Calls Tryz.prog 138 #[.pointer (some ⟨b, o, none⟩)] w fun e w' => e = .returned (.bool (alZ y (X.mk 11 val0 ⟨#[]⟩ ⟨#[]⟩ y.a y.n y.cap y.c) == 0)) ∧ Below w.heap.size w w' := by
  have hE : Hid (∀ q : X, Boxed (two1 w b o q) w.heap.size 157 (.pointer (some ⟨b, o, none⟩)) ∧ Node (two1 w b o q) b o y ∧ Node (two1 w b o q) (w.heap.size + 1) 0 q ∧ Below w.heap.size w (two1 w b o q)) := fun q => two1_facts w b o y q hN
  have one : ∀ o1 : Obj, Node (w.alloc o1) b o y := fun o1 => hN.later ((Below.refl _ w).alloc (Nat.le_refl _) _)
  have cells : ∀ o1 o2 : Obj, Node ((w.alloc o1).alloc o2) b o y := fun o1 o2 => hN.later (((Below.refl _ w).alloc (Nat.le_refl _) _).alloc (by simp) _)
  have a0 : ∀ o1 : Obj, (w.alloc o1).cell? ⟨b, o, none⟩ = some (.int .i64 11) := fun o1 => by rw [← hk]; exact (one o1).1
  have a6 : ∀ o1 : Obj, (w.alloc o1).cell? ⟨b, o + 6, none⟩ = some (.slice y.a y.n y.cap) := fun o1 => (one o1).2.2.2.2.2.2
  have c0 : ∀ o1 o2 : Obj, ((w.alloc o1).alloc o2).cell? ⟨b, o, none⟩ = some (.int .i64 11) := fun o1 o2 => by rw [← hk]; exact (cells o1 o2).1
  have c6 : ∀ o1 o2 : Obj, ((w.alloc o1).alloc o2).cell? ⟨b, o + 6, none⟩ = some (.slice y.a y.n y.cap) := fun o1 o2 => (cells o1 o2).2.2.2.2.2.2
  have hB6 : Hid True := trivial
  have hn' : ((y.n : Int) == 2) = true := by simp; omega
  clear hn
  clear hN one cells hB6
  go_enter Tryz.func138, Tryz.ntmps138
  go_wp2_with fail
  go_region
  go_wp2_with fail
  go_wp2_with (go_at_call 173; refine (alone_any b o (w.heap.size + 1) 0 y (X.mk 11 val0 ⟨#[]⟩ ⟨#[]⟩ y.a y.n y.cap y.c) (two1 w b o (X.mk 11 val0 ⟨#[]⟩ ⟨#[]⟩ y.a y.n y.cap y.c)).drew (hE.out (X.mk 11 val0 ⟨#[]⟩ ⟨#[]⟩ y.a y.n y.cap y.c)).2.1 (hE.out (X.mk 11 val0 ⟨#[]⟩ ⟨#[]⟩ y.a y.n y.cap y.c)).2.2.1).mono ?_; rintro e x9 ⟨rfl, hN9⟩)
  go_ret
  have hT9 : Below (two1 w b o (X.mk 11 val0 ⟨#[]⟩ ⟨#[]⟩ y.a y.n y.cap y.c)).heap.size (two1 w b o (X.mk 11 val0 ⟨#[]⟩ ⟨#[]⟩ y.a y.n y.cap y.c)) x9 := undrawn hN9 rfl rfl rfl rfl
  exact ⟨rfl, (hE.out (X.mk 11 val0 ⟨#[]⟩ ⟨#[]⟩ y.a y.n y.cap y.c)).2.2.2.trans (hT9.mono (hE.out (X.mk 11 val0 ⟨#[]⟩ ⟨#[]⟩ y.a y.n y.cap y.c)).2.2.2.size)⟩
set_option maxRecDepth 100000 in
set_option maxHeartbeats 2000000 in
theorem right_11_f (b o : Nat) (y : X) (w : World) (hN : Node w b o y) (hk : y.k = 11) (hn : ¬ y.n = 2) :
    Calls Tryz.prog 138 #[.pointer (some ⟨b, o, none⟩)] w fun e w' => e = .returned (.bool false) ∧ Below w.heap.size w w' := by
  have hE : Hid (∀ q : X, Boxed (two1 w b o q) w.heap.size 157 (.pointer (some ⟨b, o, none⟩)) ∧ Node (two1 w b o q) b o y ∧ Node (two1 w b o q) (w.heap.size + 1) 0 q ∧ Below w.heap.size w (two1 w b o q)) := fun q => two1_facts w b o y q hN
  have one : ∀ o1 : Obj, Node (w.alloc o1) b o y := fun o1 => hN.later ((Below.refl _ w).alloc (Nat.le_refl _) _)
  have cells : ∀ o1 o2 : Obj, Node ((w.alloc o1).alloc o2) b o y := fun o1 o2 => hN.later (((Below.refl _ w).alloc (Nat.le_refl _) _).alloc (by simp) _)
  have a0 : ∀ o1 : Obj, (w.alloc o1).cell? ⟨b, o, none⟩ = some (.int .i64 11) := fun o1 => by rw [← hk]; exact (one o1).1
  have a6 : ∀ o1 : Obj, (w.alloc o1).cell? ⟨b, o + 6, none⟩ = some (.slice y.a y.n y.cap) := fun o1 => (one o1).2.2.2.2.2.2
  have c0 : ∀ o1 o2 : Obj, ((w.alloc o1).alloc o2).cell? ⟨b, o, none⟩ = some (.int .i64 11) := fun o1 o2 => by rw [← hk]; exact (cells o1 o2).1
  have c6 : ∀ o1 o2 : Obj, ((w.alloc o1).alloc o2).cell? ⟨b, o + 6, none⟩ = some (.slice y.a y.n y.cap) := fun o1 o2 => (cells o1 o2).2.2.2.2.2.2
  have hB6 : Hid True := trivial
  have hn' : ((y.n : Int) == 2) = false := by simp; omega
  clear hn
  clear hN one cells hB6
  go_enter Tryz.func138, Tryz.ntmps138
  go_wp2_with fail
  go_region
  go_wp2_with fail
  go_wp2
  go_ret
  exact ⟨rfl, (hE.out (X.mk 11 val0 ⟨#[]⟩ ⟨#[]⟩ y.a y.n y.cap y.c)).2.2.2.drew⟩
set_option maxRecDepth 100000 in
set_option maxHeartbeats 2000000 in
theorem right_12_t (b o : Nat) (y : X) (w : World) (hN : Node w b o y) (hk : y.k = 12) (hn : y.n = 2) :
    Calls Tryz.prog 138 #[.pointer (some ⟨b, o, none⟩)] w fun e w' => e = .returned (.bool (alZ y (X.mk 12 val0 ⟨#[]⟩ ⟨#[]⟩ y.a y.n y.cap y.c) == 0)) ∧ Below w.heap.size w w' := by
  have hE : Hid (∀ q : X, Boxed (two1 w b o q) w.heap.size 157 (.pointer (some ⟨b, o, none⟩)) ∧ Node (two1 w b o q) b o y ∧ Node (two1 w b o q) (w.heap.size + 1) 0 q ∧ Below w.heap.size w (two1 w b o q)) := fun q => two1_facts w b o y q hN
  have one : ∀ o1 : Obj, Node (w.alloc o1) b o y := fun o1 => hN.later ((Below.refl _ w).alloc (Nat.le_refl _) _)
  have cells : ∀ o1 o2 : Obj, Node ((w.alloc o1).alloc o2) b o y := fun o1 o2 => hN.later (((Below.refl _ w).alloc (Nat.le_refl _) _).alloc (by simp) _)
  have a0 : ∀ o1 : Obj, (w.alloc o1).cell? ⟨b, o, none⟩ = some (.int .i64 12) := fun o1 => by rw [← hk]; exact (one o1).1
  have a6 : ∀ o1 : Obj, (w.alloc o1).cell? ⟨b, o + 6, none⟩ = some (.slice y.a y.n y.cap) := fun o1 => (one o1).2.2.2.2.2.2
  have c0 : ∀ o1 o2 : Obj, ((w.alloc o1).alloc o2).cell? ⟨b, o, none⟩ = some (.int .i64 12) := fun o1 o2 => by rw [← hk]; exact (cells o1 o2).1
  have c6 : ∀ o1 o2 : Obj, ((w.alloc o1).alloc o2).cell? ⟨b, o + 6, none⟩ = some (.slice y.a y.n y.cap) := fun o1 o2 => (cells o1 o2).2.2.2.2.2.2
  have hB6 : Hid True := trivial
  have hn' : ((y.n : Int) == 2) = true := by simp; omega
  clear hn
  clear hN one cells hB6
  go_enter Tryz.func138, Tryz.ntmps138
  go_wp2_with fail
  go_region
  go_wp2_with fail
  go_wp2_with (go_at_call 173; refine (alone_any b o (w.heap.size + 1) 0 y (X.mk 12 val0 ⟨#[]⟩ ⟨#[]⟩ y.a y.n y.cap y.c) (two1 w b o (X.mk 12 val0 ⟨#[]⟩ ⟨#[]⟩ y.a y.n y.cap y.c)).drew (hE.out (X.mk 12 val0 ⟨#[]⟩ ⟨#[]⟩ y.a y.n y.cap y.c)).2.1 (hE.out (X.mk 12 val0 ⟨#[]⟩ ⟨#[]⟩ y.a y.n y.cap y.c)).2.2.1).mono ?_; rintro e x9 ⟨rfl, hN9⟩)
  go_ret
  have hT9 : Below (two1 w b o (X.mk 12 val0 ⟨#[]⟩ ⟨#[]⟩ y.a y.n y.cap y.c)).heap.size (two1 w b o (X.mk 12 val0 ⟨#[]⟩ ⟨#[]⟩ y.a y.n y.cap y.c)) x9 := undrawn hN9 rfl rfl rfl rfl
  exact ⟨rfl, (hE.out (X.mk 12 val0 ⟨#[]⟩ ⟨#[]⟩ y.a y.n y.cap y.c)).2.2.2.trans (hT9.mono (hE.out (X.mk 12 val0 ⟨#[]⟩ ⟨#[]⟩ y.a y.n y.cap y.c)).2.2.2.size)⟩
set_option maxRecDepth 100000 in
set_option maxHeartbeats 2000000 in
theorem right_12_f (b o : Nat) (y : X) (w : World) (hN : Node w b o y) (hk : y.k = 12) (hn : ¬ y.n = 2) :
    Calls Tryz.prog 138 #[.pointer (some ⟨b, o, none⟩)] w fun e w' => e = .returned (.bool false) ∧ Below w.heap.size w w' := by
  have hE : Hid (∀ q : X, Boxed (two1 w b o q) w.heap.size 157 (.pointer (some ⟨b, o, none⟩)) ∧ Node (two1 w b o q) b o y ∧ Node (two1 w b o q) (w.heap.size + 1) 0 q ∧ Below w.heap.size w (two1 w b o q)) := fun q => two1_facts w b o y q hN
  have one : ∀ o1 : Obj, Node (w.alloc o1) b o y := fun o1 => hN.later ((Below.refl _ w).alloc (Nat.le_refl _) _)
  have cells : ∀ o1 o2 : Obj, Node ((w.alloc o1).alloc o2) b o y := fun o1 o2 => hN.later (((Below.refl _ w).alloc (Nat.le_refl _) _).alloc (by simp) _)
  have a0 : ∀ o1 : Obj, (w.alloc o1).cell? ⟨b, o, none⟩ = some (.int .i64 12) := fun o1 => by rw [← hk]; exact (one o1).1
  have a6 : ∀ o1 : Obj, (w.alloc o1).cell? ⟨b, o + 6, none⟩ = some (.slice y.a y.n y.cap) := fun o1 => (one o1).2.2.2.2.2.2
  have c0 : ∀ o1 o2 : Obj, ((w.alloc o1).alloc o2).cell? ⟨b, o, none⟩ = some (.int .i64 12) := fun o1 o2 => by rw [← hk]; exact (cells o1 o2).1
  have c6 : ∀ o1 o2 : Obj, ((w.alloc o1).alloc o2).cell? ⟨b, o + 6, none⟩ = some (.slice y.a y.n y.cap) := fun o1 o2 => (cells o1 o2).2.2.2.2.2.2
  have hB6 : Hid True := trivial
  have hn' : ((y.n : Int) == 2) = false := by simp; omega
  clear hn
  clear hN one cells hB6
  go_enter Tryz.func138, Tryz.ntmps138
  go_wp2_with fail
  go_region
  go_wp2_with fail
  go_wp2
  go_ret
  exact ⟨rfl, (hE.out (X.mk 12 val0 ⟨#[]⟩ ⟨#[]⟩ y.a y.n y.cap y.c)).2.2.2.drew⟩
set_option maxRecDepth 100000 in
set_option maxHeartbeats 2000000 in
theorem right_13_t (b o : Nat) (y : X) (w : World) (hN : Node w b o y) (hk : y.k = 13) (hn : y.n = 2) :
    Calls Tryz.prog 138 #[.pointer (some ⟨b, o, none⟩)] w fun e w' => e = .returned (.bool (alZ y (X.mk 13 val0 ⟨#[]⟩ ⟨#[]⟩ y.a y.n y.cap y.c) == 0)) ∧ Below w.heap.size w w' := by
  have hE : Hid (∀ q : X, Boxed (two1 w b o q) w.heap.size 157 (.pointer (some ⟨b, o, none⟩)) ∧ Node (two1 w b o q) b o y ∧ Node (two1 w b o q) (w.heap.size + 1) 0 q ∧ Below w.heap.size w (two1 w b o q)) := fun q => two1_facts w b o y q hN
  have one : ∀ o1 : Obj, Node (w.alloc o1) b o y := fun o1 => hN.later ((Below.refl _ w).alloc (Nat.le_refl _) _)
  have cells : ∀ o1 o2 : Obj, Node ((w.alloc o1).alloc o2) b o y := fun o1 o2 => hN.later (((Below.refl _ w).alloc (Nat.le_refl _) _).alloc (by simp) _)
  have a0 : ∀ o1 : Obj, (w.alloc o1).cell? ⟨b, o, none⟩ = some (.int .i64 13) := fun o1 => by rw [← hk]; exact (one o1).1
  have a6 : ∀ o1 : Obj, (w.alloc o1).cell? ⟨b, o + 6, none⟩ = some (.slice y.a y.n y.cap) := fun o1 => (one o1).2.2.2.2.2.2
  have c0 : ∀ o1 o2 : Obj, ((w.alloc o1).alloc o2).cell? ⟨b, o, none⟩ = some (.int .i64 13) := fun o1 o2 => by rw [← hk]; exact (cells o1 o2).1
  have c6 : ∀ o1 o2 : Obj, ((w.alloc o1).alloc o2).cell? ⟨b, o + 6, none⟩ = some (.slice y.a y.n y.cap) := fun o1 o2 => (cells o1 o2).2.2.2.2.2.2
  have hB6 : Hid True := trivial
  have hn' : ((y.n : Int) == 2) = true := by simp; omega
  clear hn
  clear hN one cells hB6
  go_enter Tryz.func138, Tryz.ntmps138
  go_wp2_with fail
  go_region
  go_wp2_with fail
  go_wp2_with (go_at_call 173; refine (alone_any b o (w.heap.size + 1) 0 y (X.mk 13 val0 ⟨#[]⟩ ⟨#[]⟩ y.a y.n y.cap y.c) (two1 w b o (X.mk 13 val0 ⟨#[]⟩ ⟨#[]⟩ y.a y.n y.cap y.c)).drew (hE.out (X.mk 13 val0 ⟨#[]⟩ ⟨#[]⟩ y.a y.n y.cap y.c)).2.1 (hE.out (X.mk 13 val0 ⟨#[]⟩ ⟨#[]⟩ y.a y.n y.cap y.c)).2.2.1).mono ?_; rintro e x9 ⟨rfl, hN9⟩)
  go_ret
  have hT9 : Below (two1 w b o (X.mk 13 val0 ⟨#[]⟩ ⟨#[]⟩ y.a y.n y.cap y.c)).heap.size (two1 w b o (X.mk 13 val0 ⟨#[]⟩ ⟨#[]⟩ y.a y.n y.cap y.c)) x9 := undrawn hN9 rfl rfl rfl rfl
  exact ⟨rfl, (hE.out (X.mk 13 val0 ⟨#[]⟩ ⟨#[]⟩ y.a y.n y.cap y.c)).2.2.2.trans (hT9.mono (hE.out (X.mk 13 val0 ⟨#[]⟩ ⟨#[]⟩ y.a y.n y.cap y.c)).2.2.2.size)⟩
set_option maxRecDepth 100000 in
set_option maxHeartbeats 2000000 in
theorem right_13_f (b o : Nat) (y : X) (w : World) (hN : Node w b o y) (hk : y.k = 13) (hn : ¬ y.n = 2) :
    Calls Tryz.prog 138 #[.pointer (some ⟨b, o, none⟩)] w fun e w' => e = .returned (.bool false) ∧ Below w.heap.size w w' := by
  have hE : Hid (∀ q : X, Boxed (two1 w b o q) w.heap.size 157 (.pointer (some ⟨b, o, none⟩)) ∧ Node (two1 w b o q) b o y ∧ Node (two1 w b o q) (w.heap.size + 1) 0 q ∧ Below w.heap.size w (two1 w b o q)) := fun q => two1_facts w b o y q hN
  have one : ∀ o1 : Obj, Node (w.alloc o1) b o y := fun o1 => hN.later ((Below.refl _ w).alloc (Nat.le_refl _) _)
  have cells : ∀ o1 o2 : Obj, Node ((w.alloc o1).alloc o2) b o y := fun o1 o2 => hN.later (((Below.refl _ w).alloc (Nat.le_refl _) _).alloc (by simp) _)
  have a0 : ∀ o1 : Obj, (w.alloc o1).cell? ⟨b, o, none⟩ = some (.int .i64 13) := fun o1 => by rw [← hk]; exact (one o1).1
  have a6 : ∀ o1 : Obj, (w.alloc o1).cell? ⟨b, o + 6, none⟩ = some (.slice y.a y.n y.cap) := fun o1 => (one o1).2.2.2.2.2.2
  have c0 : ∀ o1 o2 : Obj, ((w.alloc o1).alloc o2).cell? ⟨b, o, none⟩ = some (.int .i64 13) := fun o1 o2 => by rw [← hk]; exact (cells o1 o2).1
  have c6 : ∀ o1 o2 : Obj, ((w.alloc o1).alloc o2).cell? ⟨b, o + 6, none⟩ = some (.slice y.a y.n y.cap) := fun o1 o2 => (cells o1 o2).2.2.2.2.2.2
  have hB6 : Hid True := trivial
  have hn' : ((y.n : Int) == 2) = false := by simp; omega
  clear hn
  clear hN one cells hB6
  go_enter Tryz.func138, Tryz.ntmps138
  go_wp2_with fail
  go_region
  go_wp2_with fail
  go_wp2
  go_ret
  exact ⟨rfl, (hE.out (X.mk 13 val0 ⟨#[]⟩ ⟨#[]⟩ y.a y.n y.cap y.c)).2.2.2.drew⟩
set_option maxRecDepth 100000 in
set_option maxHeartbeats 2000000 in
theorem right_14_t (b o : Nat) (y : X) (w : World) (hN : Node w b o y) (hk : y.k = 14) (hn : y.n = 2) :
    Calls Tryz.prog 138 #[.pointer (some ⟨b, o, none⟩)] w fun e w' => e = .returned (.bool (alZ y (X.mk 14 val0 ⟨#[]⟩ ⟨#[]⟩ y.a y.n y.cap y.c) == 0)) ∧ Below w.heap.size w w' := by
  have hE : Hid (∀ q : X, Boxed (two1 w b o q) w.heap.size 157 (.pointer (some ⟨b, o, none⟩)) ∧ Node (two1 w b o q) b o y ∧ Node (two1 w b o q) (w.heap.size + 1) 0 q ∧ Below w.heap.size w (two1 w b o q)) := fun q => two1_facts w b o y q hN
  have one : ∀ o1 : Obj, Node (w.alloc o1) b o y := fun o1 => hN.later ((Below.refl _ w).alloc (Nat.le_refl _) _)
  have cells : ∀ o1 o2 : Obj, Node ((w.alloc o1).alloc o2) b o y := fun o1 o2 => hN.later (((Below.refl _ w).alloc (Nat.le_refl _) _).alloc (by simp) _)
  have a0 : ∀ o1 : Obj, (w.alloc o1).cell? ⟨b, o, none⟩ = some (.int .i64 14) := fun o1 => by rw [← hk]; exact (one o1).1
  have a6 : ∀ o1 : Obj, (w.alloc o1).cell? ⟨b, o + 6, none⟩ = some (.slice y.a y.n y.cap) := fun o1 => (one o1).2.2.2.2.2.2
  have c0 : ∀ o1 o2 : Obj, ((w.alloc o1).alloc o2).cell? ⟨b, o, none⟩ = some (.int .i64 14) := fun o1 o2 => by rw [← hk]; exact (cells o1 o2).1
  have c6 : ∀ o1 o2 : Obj, ((w.alloc o1).alloc o2).cell? ⟨b, o + 6, none⟩ = some (.slice y.a y.n y.cap) := fun o1 o2 => (cells o1 o2).2.2.2.2.2.2
  have hB6 : Hid True := trivial
  have hn' : ((y.n : Int) == 2) = true := by simp; omega
  clear hn
  clear hN one cells hB6
  go_enter Tryz.func138, Tryz.ntmps138
  go_wp2_with fail
  go_region
  go_wp2_with fail
  go_wp2_with (go_at_call 173; refine (alone_any b o (w.heap.size + 1) 0 y (X.mk 14 val0 ⟨#[]⟩ ⟨#[]⟩ y.a y.n y.cap y.c) (two1 w b o (X.mk 14 val0 ⟨#[]⟩ ⟨#[]⟩ y.a y.n y.cap y.c)).drew (hE.out (X.mk 14 val0 ⟨#[]⟩ ⟨#[]⟩ y.a y.n y.cap y.c)).2.1 (hE.out (X.mk 14 val0 ⟨#[]⟩ ⟨#[]⟩ y.a y.n y.cap y.c)).2.2.1).mono ?_; rintro e x9 ⟨rfl, hN9⟩)
  go_ret
  have hT9 : Below (two1 w b o (X.mk 14 val0 ⟨#[]⟩ ⟨#[]⟩ y.a y.n y.cap y.c)).heap.size (two1 w b o (X.mk 14 val0 ⟨#[]⟩ ⟨#[]⟩ y.a y.n y.cap y.c)) x9 := undrawn hN9 rfl rfl rfl rfl
  exact ⟨rfl, (hE.out (X.mk 14 val0 ⟨#[]⟩ ⟨#[]⟩ y.a y.n y.cap y.c)).2.2.2.trans (hT9.mono (hE.out (X.mk 14 val0 ⟨#[]⟩ ⟨#[]⟩ y.a y.n y.cap y.c)).2.2.2.size)⟩
set_option maxRecDepth 100000 in
set_option maxHeartbeats 2000000 in
theorem right_14_f (b o : Nat) (y : X) (w : World) (hN : Node w b o y) (hk : y.k = 14) (hn : ¬ y.n = 2) :
    Calls Tryz.prog 138 #[.pointer (some ⟨b, o, none⟩)] w fun e w' => e = .returned (.bool false) ∧ Below w.heap.size w w' := by
  have hE : Hid (∀ q : X, Boxed (two1 w b o q) w.heap.size 157 (.pointer (some ⟨b, o, none⟩)) ∧ Node (two1 w b o q) b o y ∧ Node (two1 w b o q) (w.heap.size + 1) 0 q ∧ Below w.heap.size w (two1 w b o q)) := fun q => two1_facts w b o y q hN
  have one : ∀ o1 : Obj, Node (w.alloc o1) b o y := fun o1 => hN.later ((Below.refl _ w).alloc (Nat.le_refl _) _)
  have cells : ∀ o1 o2 : Obj, Node ((w.alloc o1).alloc o2) b o y := fun o1 o2 => hN.later (((Below.refl _ w).alloc (Nat.le_refl _) _).alloc (by simp) _)
  have a0 : ∀ o1 : Obj, (w.alloc o1).cell? ⟨b, o, none⟩ = some (.int .i64 14) := fun o1 => by rw [← hk]; exact (one o1).1
  have a6 : ∀ o1 : Obj, (w.alloc o1).cell? ⟨b, o + 6, none⟩ = some (.slice y.a y.n y.cap) := fun o1 => (one o1).2.2.2.2.2.2
  have c0 : ∀ o1 o2 : Obj, ((w.alloc o1).alloc o2).cell? ⟨b, o, none⟩ = some (.int .i64 14) := fun o1 o2 => by rw [← hk]; exact (cells o1 o2).1
  have c6 : ∀ o1 o2 : Obj, ((w.alloc o1).alloc o2).cell? ⟨b, o + 6, none⟩ = some (.slice y.a y.n y.cap) := fun o1 o2 => (cells o1 o2).2.2.2.2.2.2
  have hB6 : Hid True := trivial
  have hn' : ((y.n : Int) == 2) = false := by simp; omega
  clear hn
  clear hN one cells hB6
  go_enter Tryz.func138, Tryz.ntmps138
  go_wp2_with fail
  go_region
  go_wp2_with fail
  go_wp2
  go_ret
  exact ⟨rfl, (hE.out (X.mk 14 val0 ⟨#[]⟩ ⟨#[]⟩ y.a y.n y.cap y.c)).2.2.2.drew⟩
end Go.Proofs.YtkfpgkohkhhlhaaGreatDoor
namespace Go.Proofs.YtkfpgkohkhhlhaaGreatDoor
open Go.RowKit

set_option maxRecDepth 100000 in
set_option maxHeartbeats 2000000 in
theorem right_16_few (b o : Nat) (y : X) (w : World) (hN : Node w b o y) (hk : y.k = 16) (hn : ¬ 2 ≤ y.n) :
    Calls Tryz.prog 138 #[.pointer (some ⟨b, o, none⟩)] w fun e w' => e = .returned (.bool false) ∧ Below w.heap.size w w' := by
  have hE : Hid (∀ q : X, Boxed (two1 w b o q) w.heap.size 157 (.pointer (some ⟨b, o, none⟩)) ∧ Node (two1 w b o q) b o y ∧ Node (two1 w b o q) (w.heap.size + 1) 0 q ∧ Below w.heap.size w (two1 w b o q)) := fun q => two1_facts w b o y q hN
  have one : ∀ o1 : Obj, Node (w.alloc o1) b o y := fun o1 => hN.later ((Below.refl _ w).alloc (Nat.le_refl _) _)
  have cells : ∀ o1 o2 : Obj, Node ((w.alloc o1).alloc o2) b o y := fun o1 o2 => hN.later (((Below.refl _ w).alloc (Nat.le_refl _) _).alloc (by simp) _)
  have a0 : ∀ o1 : Obj, (w.alloc o1).cell? ⟨b, o, none⟩ = some (.int .i64 16) := fun o1 => by rw [← hk]; exact (one o1).1
  have a6 : ∀ o1 : Obj, (w.alloc o1).cell? ⟨b, o + 6, none⟩ = some (.slice y.a y.n y.cap) := fun o1 => (one o1).2.2.2.2.2.2
  have c0 : ∀ o1 o2 : Obj, ((w.alloc o1).alloc o2).cell? ⟨b, o, none⟩ = some (.int .i64 16) := fun o1 o2 => by rw [← hk]; exact (cells o1 o2).1
  have c6 : ∀ o1 o2 : Obj, ((w.alloc o1).alloc o2).cell? ⟨b, o + 6, none⟩ = some (.slice y.a y.n y.cap) := fun o1 o2 => (cells o1 o2).2.2.2.2.2.2
  have hB6 : Hid True := trivial
  have hn' : ¬ (2 : Int) ≤ (y.n : Int) := by omega
  clear hn
  clear hN one cells hB6
  go_enter Tryz.func138, Tryz.ntmps138
  go_wp2_with fail
  go_region
  go_wp2_with fail
  go_wp2
  go_ret
  exact ⟨rfl, (hE.out (X.mk 16 val0 ⟨#[]⟩ ⟨#[]⟩ y.a y.n y.cap y.c)).2.2.2.drew⟩
set_option maxRecDepth 100000 in
set_option maxHeartbeats 2000000 in
theorem right_16_true (b o : Nat) (y : X) (w : World) (hN : Node w b o y) (hY : IsX w y) (hk : y.k = 16) (hn : 2 ≤ y.n) (hx : ∃ i, i < y.n ∧ (y.c i).k = y.k) :
    Calls Tryz.prog 138 #[.pointer (some ⟨b, o, none⟩)] w fun e w' => e = .returned (.bool false) ∧ Below w.heap.size w w' := by
  have hE : Hid (∀ q : X, Boxed (two1 w b o q) w.heap.size 157 (.pointer (some ⟨b, o, none⟩)) ∧ Node (two1 w b o q) b o y ∧ Node (two1 w b o q) (w.heap.size + 1) 0 q ∧ Below w.heap.size w (two1 w b o q)) := fun q => two1_facts w b o y q hN
  have one : ∀ o1 : Obj, Node (w.alloc o1) b o y := fun o1 => hN.later ((Below.refl _ w).alloc (Nat.le_refl _) _)
  have cells : ∀ o1 o2 : Obj, Node ((w.alloc o1).alloc o2) b o y := fun o1 o2 => hN.later (((Below.refl _ w).alloc (Nat.le_refl _) _).alloc (by simp) _)
  have a0 : ∀ o1 : Obj, (w.alloc o1).cell? ⟨b, o, none⟩ = some (.int .i64 16) := fun o1 => by rw [← hk]; exact (one o1).1
  have a6 : ∀ o1 : Obj, (w.alloc o1).cell? ⟨b, o + 6, none⟩ = some (.slice y.a y.n y.cap) := fun o1 => (one o1).2.2.2.2.2.2
  have c0 : ∀ o1 o2 : Obj, ((w.alloc o1).alloc o2).cell? ⟨b, o, none⟩ = some (.int .i64 16) := fun o1 o2 => by rw [← hk]; exact (cells o1 o2).1
  have c6 : ∀ o1 o2 : Obj, ((w.alloc o1).alloc o2).cell? ⟨b, o + 6, none⟩ = some (.slice y.a y.n y.cap) := fun o1 o2 => (cells o1 o2).2.2.2.2.2.2
  have hB6 : Hid True := trivial
  have hn' : (2 : Int) ≤ (y.n : Int) := by omega
  have hR : Hid (Calls Tryz.prog 101 #[.slice y.a y.n y.cap, .func (.func 172) #[] #[.pointer (some ⟨w.heap.size, 0, none⟩)]] (two1 w b o (X.mk 16 val0 ⟨#[]⟩ ⟨#[]⟩ y.a y.n y.cap y.c)).drew fun e w' => e = .returned (.bool true) ∧ Below (two1 w b o (X.mk 16 val0 ⟨#[]⟩ ⟨#[]⟩ y.a y.n y.cap y.c)).drew.heap.size (two1 w b o (X.mk 16 val0 ⟨#[]⟩ ⟨#[]⟩ y.a y.n y.cap y.c)).drew w') := by
    refine (kinds_any y w.heap.size b o y.k _ ((hY.later (hE.out (X.mk 16 val0 ⟨#[]⟩ ⟨#[]⟩ y.a y.n y.cap y.c)).2.2.2.drew)) (hE.out (X.mk 16 val0 ⟨#[]⟩ ⟨#[]⟩ y.a y.n y.cap y.c)).1.cell (hE.out (X.mk 16 val0 ⟨#[]⟩ ⟨#[]⟩ y.a y.n y.cap y.c)).2.1.1).mono ?_
    rintro e w' ⟨r, rfl, hr, hB⟩
    refine ⟨ret_bool ?_, hB⟩
    cases r with
    | true => rfl
    | false => exact absurd (hr.2 hx) (by simp)
  clear hn hx hY
  clear hN one cells hB6
  go_enter Tryz.func138, Tryz.ntmps138
  go_wp2_with fail
  go_region
  go_wp2_with fail
  go_wp2_with (first
    | (go_at_call 101; refine (hR.out).mono ?_; rintro e x1 ⟨rfl, hN1⟩; have hT1 : Below (two1 w b o (X.mk 16 val0 ⟨#[]⟩ ⟨#[]⟩ y.a y.n y.cap y.c)).heap.size (two1 w b o (X.mk 16 val0 ⟨#[]⟩ ⟨#[]⟩ y.a y.n y.cap y.c)) x1 := undrawn hN1 rfl rfl rfl rfl; clear hN1; have bx1 := (on_box (hE.out (X.mk 16 val0 ⟨#[]⟩ ⟨#[]⟩ y.a y.n y.cap y.c)).1 hT1).cell))
  go_ret
  exact ⟨rfl, (hE.out (X.mk 16 val0 ⟨#[]⟩ ⟨#[]⟩ y.a y.n y.cap y.c)).2.2.2.trans (hT1.mono (hE.out (X.mk 16 val0 ⟨#[]⟩ ⟨#[]⟩ y.a y.n y.cap y.c)).2.2.2.size)⟩
set_option maxRecDepth 100000 in
set_option maxHeartbeats 2000000 in
theorem right_16_false (b o : Nat) (y : X) (w : World) (hN : Node w b o y) (hY : IsX w y) (hk : y.k = 16) (hn : 2 ≤ y.n) (hx : ¬ ∃ i, i < y.n ∧ (y.c i).k = y.k) :
    Calls Tryz.prog 138 #[.pointer (some ⟨b, o, none⟩)] w fun e w' => e = .returned (.bool (alZ y (X.mk 16 val0 ⟨#[]⟩ ⟨#[]⟩ y.a y.n y.cap y.c) == 0)) ∧ Below w.heap.size w w' := by
  have hE : Hid (∀ q : X, Boxed (two1 w b o q) w.heap.size 157 (.pointer (some ⟨b, o, none⟩)) ∧ Node (two1 w b o q) b o y ∧ Node (two1 w b o q) (w.heap.size + 1) 0 q ∧ Below w.heap.size w (two1 w b o q)) := fun q => two1_facts w b o y q hN
  have one : ∀ o1 : Obj, Node (w.alloc o1) b o y := fun o1 => hN.later ((Below.refl _ w).alloc (Nat.le_refl _) _)
  have cells : ∀ o1 o2 : Obj, Node ((w.alloc o1).alloc o2) b o y := fun o1 o2 => hN.later (((Below.refl _ w).alloc (Nat.le_refl _) _).alloc (by simp) _)
  have a0 : ∀ o1 : Obj, (w.alloc o1).cell? ⟨b, o, none⟩ = some (.int .i64 16) := fun o1 => by rw [← hk]; exact (one o1).1
  have a6 : ∀ o1 : Obj, (w.alloc o1).cell? ⟨b, o + 6, none⟩ = some (.slice y.a y.n y.cap) := fun o1 => (one o1).2.2.2.2.2.2
  have c0 : ∀ o1 o2 : Obj, ((w.alloc o1).alloc o2).cell? ⟨b, o, none⟩ = some (.int .i64 16) := fun o1 o2 => by rw [← hk]; exact (cells o1 o2).1
  have c6 : ∀ o1 o2 : Obj, ((w.alloc o1).alloc o2).cell? ⟨b, o + 6, none⟩ = some (.slice y.a y.n y.cap) := fun o1 o2 => (cells o1 o2).2.2.2.2.2.2
  have hB6 : Hid True := trivial
  have hn' : (2 : Int) ≤ (y.n : Int) := by omega
  have hR : Hid (Calls Tryz.prog 101 #[.slice y.a y.n y.cap, .func (.func 172) #[] #[.pointer (some ⟨w.heap.size, 0, none⟩)]] (two1 w b o (X.mk 16 val0 ⟨#[]⟩ ⟨#[]⟩ y.a y.n y.cap y.c)).drew fun e w' => e = .returned (.bool false) ∧ Below (two1 w b o (X.mk 16 val0 ⟨#[]⟩ ⟨#[]⟩ y.a y.n y.cap y.c)).drew.heap.size (two1 w b o (X.mk 16 val0 ⟨#[]⟩ ⟨#[]⟩ y.a y.n y.cap y.c)).drew w') := by
    refine (kinds_any y w.heap.size b o y.k _ ((hY.later (hE.out (X.mk 16 val0 ⟨#[]⟩ ⟨#[]⟩ y.a y.n y.cap y.c)).2.2.2.drew)) (hE.out (X.mk 16 val0 ⟨#[]⟩ ⟨#[]⟩ y.a y.n y.cap y.c)).1.cell (hE.out (X.mk 16 val0 ⟨#[]⟩ ⟨#[]⟩ y.a y.n y.cap y.c)).2.1.1).mono ?_
    rintro e w' ⟨r, rfl, hr, hB⟩
    refine ⟨ret_bool ?_, hB⟩
    cases r with
    | true => exact absurd (hr.1 rfl) hx
    | false => rfl
  clear hn hx hY
  clear hN one cells hB6
  go_enter Tryz.func138, Tryz.ntmps138
  go_wp2_with fail
  go_region
  go_wp2_with fail
  go_wp2_with (first
    | (go_at_call 101; refine (hR.out).mono ?_; rintro e x1 ⟨rfl, hN1⟩; have hT1 : Below (two1 w b o (X.mk 16 val0 ⟨#[]⟩ ⟨#[]⟩ y.a y.n y.cap y.c)).heap.size (two1 w b o (X.mk 16 val0 ⟨#[]⟩ ⟨#[]⟩ y.a y.n y.cap y.c)) x1 := undrawn hN1 rfl rfl rfl rfl; clear hN1; have bx1 := (on_box (hE.out (X.mk 16 val0 ⟨#[]⟩ ⟨#[]⟩ y.a y.n y.cap y.c)).1 hT1).cell)
    | (go_at_call 173; refine (alone_any b o (w.heap.size + 1) 0 y (X.mk 16 val0 ⟨#[]⟩ ⟨#[]⟩ y.a y.n y.cap y.c) _ ((hE.out (X.mk 16 val0 ⟨#[]⟩ ⟨#[]⟩ y.a y.n y.cap y.c)).2.1.later hT1) ((hE.out (X.mk 16 val0 ⟨#[]⟩ ⟨#[]⟩ y.a y.n y.cap y.c)).2.2.1.later hT1)).mono ?_; rintro e x9 ⟨rfl, hN9⟩))
  go_ret
  exact ⟨rfl, (hE.out (X.mk 16 val0 ⟨#[]⟩ ⟨#[]⟩ y.a y.n y.cap y.c)).2.2.2.trans ((hT1.trans (hN9.mono hT1.size)).mono (hE.out (X.mk 16 val0 ⟨#[]⟩ ⟨#[]⟩ y.a y.n y.cap y.c)).2.2.2.size)⟩
set_option maxRecDepth 100000 in
set_option maxHeartbeats 2000000 in
theorem right_17_few (b o : Nat) (y : X) (w : World) (hN : Node w b o y) (hk : y.k = 17) (hn : ¬ 2 ≤ y.n) :
    Calls Tryz.prog 138 #[.pointer (some ⟨b, o, none⟩)] w fun e w' => e = .returned (.bool false) ∧ Below w.heap.size w w' := by
  have hE : Hid (∀ q : X, Boxed (two1 w b o q) w.heap.size 157 (.pointer (some ⟨b, o, none⟩)) ∧ Node (two1 w b o q) b o y ∧ Node (two1 w b o q) (w.heap.size + 1) 0 q ∧ Below w.heap.size w (two1 w b o q)) := fun q => two1_facts w b o y q hN
  have one : ∀ o1 : Obj, Node (w.alloc o1) b o y := fun o1 => hN.later ((Below.refl _ w).alloc (Nat.le_refl _) _)
  have cells : ∀ o1 o2 : Obj, Node ((w.alloc o1).alloc o2) b o y := fun o1 o2 => hN.later (((Below.refl _ w).alloc (Nat.le_refl _) _).alloc (by simp) _)
  have a0 : ∀ o1 : Obj, (w.alloc o1).cell? ⟨b, o, none⟩ = some (.int .i64 17) := fun o1 => by rw [← hk]; exact (one o1).1
  have a6 : ∀ o1 : Obj, (w.alloc o1).cell? ⟨b, o + 6, none⟩ = some (.slice y.a y.n y.cap) := fun o1 => (one o1).2.2.2.2.2.2
  have c0 : ∀ o1 o2 : Obj, ((w.alloc o1).alloc o2).cell? ⟨b, o, none⟩ = some (.int .i64 17) := fun o1 o2 => by rw [← hk]; exact (cells o1 o2).1
  have c6 : ∀ o1 o2 : Obj, ((w.alloc o1).alloc o2).cell? ⟨b, o + 6, none⟩ = some (.slice y.a y.n y.cap) := fun o1 o2 => (cells o1 o2).2.2.2.2.2.2
  have hB6 : Hid True := trivial
  have hn' : ¬ (2 : Int) ≤ (y.n : Int) := by omega
  clear hn
  clear hN one cells hB6
  go_enter Tryz.func138, Tryz.ntmps138
  go_wp2_with fail
  go_region
  go_wp2_with fail
  go_wp2
  go_ret
  exact ⟨rfl, (hE.out (X.mk 17 val0 ⟨#[]⟩ ⟨#[]⟩ y.a y.n y.cap y.c)).2.2.2.drew⟩
set_option maxRecDepth 100000 in
set_option maxHeartbeats 2000000 in
theorem right_17_true (b o : Nat) (y : X) (w : World) (hN : Node w b o y) (hY : IsX w y) (hk : y.k = 17) (hn : 2 ≤ y.n) (hx : ∃ i, i < y.n ∧ (y.c i).k = y.k) :
    Calls Tryz.prog 138 #[.pointer (some ⟨b, o, none⟩)] w fun e w' => e = .returned (.bool false) ∧ Below w.heap.size w w' := by
  have hE : Hid (∀ q : X, Boxed (two1 w b o q) w.heap.size 157 (.pointer (some ⟨b, o, none⟩)) ∧ Node (two1 w b o q) b o y ∧ Node (two1 w b o q) (w.heap.size + 1) 0 q ∧ Below w.heap.size w (two1 w b o q)) := fun q => two1_facts w b o y q hN
  have one : ∀ o1 : Obj, Node (w.alloc o1) b o y := fun o1 => hN.later ((Below.refl _ w).alloc (Nat.le_refl _) _)
  have cells : ∀ o1 o2 : Obj, Node ((w.alloc o1).alloc o2) b o y := fun o1 o2 => hN.later (((Below.refl _ w).alloc (Nat.le_refl _) _).alloc (by simp) _)
  have a0 : ∀ o1 : Obj, (w.alloc o1).cell? ⟨b, o, none⟩ = some (.int .i64 17) := fun o1 => by rw [← hk]; exact (one o1).1
  have a6 : ∀ o1 : Obj, (w.alloc o1).cell? ⟨b, o + 6, none⟩ = some (.slice y.a y.n y.cap) := fun o1 => (one o1).2.2.2.2.2.2
  have c0 : ∀ o1 o2 : Obj, ((w.alloc o1).alloc o2).cell? ⟨b, o, none⟩ = some (.int .i64 17) := fun o1 o2 => by rw [← hk]; exact (cells o1 o2).1
  have c6 : ∀ o1 o2 : Obj, ((w.alloc o1).alloc o2).cell? ⟨b, o + 6, none⟩ = some (.slice y.a y.n y.cap) := fun o1 o2 => (cells o1 o2).2.2.2.2.2.2
  have hB6 : Hid True := trivial
  have hn' : (2 : Int) ≤ (y.n : Int) := by omega
  have hR : Hid (Calls Tryz.prog 101 #[.slice y.a y.n y.cap, .func (.func 172) #[] #[.pointer (some ⟨w.heap.size, 0, none⟩)]] (two1 w b o (X.mk 17 val0 ⟨#[]⟩ ⟨#[]⟩ y.a y.n y.cap y.c)).drew fun e w' => e = .returned (.bool true) ∧ Below (two1 w b o (X.mk 17 val0 ⟨#[]⟩ ⟨#[]⟩ y.a y.n y.cap y.c)).drew.heap.size (two1 w b o (X.mk 17 val0 ⟨#[]⟩ ⟨#[]⟩ y.a y.n y.cap y.c)).drew w') := by
    refine (kinds_any y w.heap.size b o y.k _ ((hY.later (hE.out (X.mk 17 val0 ⟨#[]⟩ ⟨#[]⟩ y.a y.n y.cap y.c)).2.2.2.drew)) (hE.out (X.mk 17 val0 ⟨#[]⟩ ⟨#[]⟩ y.a y.n y.cap y.c)).1.cell (hE.out (X.mk 17 val0 ⟨#[]⟩ ⟨#[]⟩ y.a y.n y.cap y.c)).2.1.1).mono ?_
    rintro e w' ⟨r, rfl, hr, hB⟩
    refine ⟨ret_bool ?_, hB⟩
    cases r with
    | true => rfl
    | false => exact absurd (hr.2 hx) (by simp)
  clear hn hx hY
  clear hN one cells hB6
  go_enter Tryz.func138, Tryz.ntmps138
  go_wp2_with fail
  go_region
  go_wp2_with fail
  go_wp2_with (first
    | (go_at_call 101; refine (hR.out).mono ?_; rintro e x1 ⟨rfl, hN1⟩; have hT1 : Below (two1 w b o (X.mk 17 val0 ⟨#[]⟩ ⟨#[]⟩ y.a y.n y.cap y.c)).heap.size (two1 w b o (X.mk 17 val0 ⟨#[]⟩ ⟨#[]⟩ y.a y.n y.cap y.c)) x1 := undrawn hN1 rfl rfl rfl rfl; clear hN1; have bx1 := (on_box (hE.out (X.mk 17 val0 ⟨#[]⟩ ⟨#[]⟩ y.a y.n y.cap y.c)).1 hT1).cell))
  go_ret
  exact ⟨rfl, (hE.out (X.mk 17 val0 ⟨#[]⟩ ⟨#[]⟩ y.a y.n y.cap y.c)).2.2.2.trans (hT1.mono (hE.out (X.mk 17 val0 ⟨#[]⟩ ⟨#[]⟩ y.a y.n y.cap y.c)).2.2.2.size)⟩
set_option maxRecDepth 100000 in
set_option maxHeartbeats 2000000 in
theorem right_17_false (b o : Nat) (y : X) (w : World) (hN : Node w b o y) (hY : IsX w y) (hk : y.k = 17) (hn : 2 ≤ y.n) (hx : ¬ ∃ i, i < y.n ∧ (y.c i).k = y.k) :
    Calls Tryz.prog 138 #[.pointer (some ⟨b, o, none⟩)] w fun e w' => e = .returned (.bool (alZ y (X.mk 17 val0 ⟨#[]⟩ ⟨#[]⟩ y.a y.n y.cap y.c) == 0)) ∧ Below w.heap.size w w' := by
  have hE : Hid (∀ q : X, Boxed (two1 w b o q) w.heap.size 157 (.pointer (some ⟨b, o, none⟩)) ∧ Node (two1 w b o q) b o y ∧ Node (two1 w b o q) (w.heap.size + 1) 0 q ∧ Below w.heap.size w (two1 w b o q)) := fun q => two1_facts w b o y q hN
  have one : ∀ o1 : Obj, Node (w.alloc o1) b o y := fun o1 => hN.later ((Below.refl _ w).alloc (Nat.le_refl _) _)
  have cells : ∀ o1 o2 : Obj, Node ((w.alloc o1).alloc o2) b o y := fun o1 o2 => hN.later (((Below.refl _ w).alloc (Nat.le_refl _) _).alloc (by simp) _)
  have a0 : ∀ o1 : Obj, (w.alloc o1).cell? ⟨b, o, none⟩ = some (.int .i64 17) := fun o1 => by rw [← hk]; exact (one o1).1
  have a6 : ∀ o1 : Obj, (w.alloc o1).cell? ⟨b, o + 6, none⟩ = some (.slice y.a y.n y.cap) := fun o1 => (one o1).2.2.2.2.2.2
  have c0 : ∀ o1 o2 : Obj, ((w.alloc o1).alloc o2).cell? ⟨b, o, none⟩ = some (.int .i64 17) := fun o1 o2 => by rw [← hk]; exact (cells o1 o2).1
  have c6 : ∀ o1 o2 : Obj, ((w.alloc o1).alloc o2).cell? ⟨b, o + 6, none⟩ = some (.slice y.a y.n y.cap) := fun o1 o2 => (cells o1 o2).2.2.2.2.2.2
  have hB6 : Hid True := trivial
  have hn' : (2 : Int) ≤ (y.n : Int) := by omega
  have hR : Hid (Calls Tryz.prog 101 #[.slice y.a y.n y.cap, .func (.func 172) #[] #[.pointer (some ⟨w.heap.size, 0, none⟩)]] (two1 w b o (X.mk 17 val0 ⟨#[]⟩ ⟨#[]⟩ y.a y.n y.cap y.c)).drew fun e w' => e = .returned (.bool false) ∧ Below (two1 w b o (X.mk 17 val0 ⟨#[]⟩ ⟨#[]⟩ y.a y.n y.cap y.c)).drew.heap.size (two1 w b o (X.mk 17 val0 ⟨#[]⟩ ⟨#[]⟩ y.a y.n y.cap y.c)).drew w') := by
    refine (kinds_any y w.heap.size b o y.k _ ((hY.later (hE.out (X.mk 17 val0 ⟨#[]⟩ ⟨#[]⟩ y.a y.n y.cap y.c)).2.2.2.drew)) (hE.out (X.mk 17 val0 ⟨#[]⟩ ⟨#[]⟩ y.a y.n y.cap y.c)).1.cell (hE.out (X.mk 17 val0 ⟨#[]⟩ ⟨#[]⟩ y.a y.n y.cap y.c)).2.1.1).mono ?_
    rintro e w' ⟨r, rfl, hr, hB⟩
    refine ⟨ret_bool ?_, hB⟩
    cases r with
    | true => exact absurd (hr.1 rfl) hx
    | false => rfl
  clear hn hx hY
  clear hN one cells hB6
  go_enter Tryz.func138, Tryz.ntmps138
  go_wp2_with fail
  go_region
  go_wp2_with fail
  go_wp2_with (first
    | (go_at_call 101; refine (hR.out).mono ?_; rintro e x1 ⟨rfl, hN1⟩; have hT1 : Below (two1 w b o (X.mk 17 val0 ⟨#[]⟩ ⟨#[]⟩ y.a y.n y.cap y.c)).heap.size (two1 w b o (X.mk 17 val0 ⟨#[]⟩ ⟨#[]⟩ y.a y.n y.cap y.c)) x1 := undrawn hN1 rfl rfl rfl rfl; clear hN1; have bx1 := (on_box (hE.out (X.mk 17 val0 ⟨#[]⟩ ⟨#[]⟩ y.a y.n y.cap y.c)).1 hT1).cell)
    | (go_at_call 173; refine (alone_any b o (w.heap.size + 1) 0 y (X.mk 17 val0 ⟨#[]⟩ ⟨#[]⟩ y.a y.n y.cap y.c) _ ((hE.out (X.mk 17 val0 ⟨#[]⟩ ⟨#[]⟩ y.a y.n y.cap y.c)).2.1.later hT1) ((hE.out (X.mk 17 val0 ⟨#[]⟩ ⟨#[]⟩ y.a y.n y.cap y.c)).2.2.1.later hT1)).mono ?_; rintro e x9 ⟨rfl, hN9⟩))
  go_ret
  exact ⟨rfl, (hE.out (X.mk 17 val0 ⟨#[]⟩ ⟨#[]⟩ y.a y.n y.cap y.c)).2.2.2.trans ((hT1.trans (hN9.mono hT1.size)).mono (hE.out (X.mk 17 val0 ⟨#[]⟩ ⟨#[]⟩ y.a y.n y.cap y.c)).2.2.2.size)⟩
set_option maxRecDepth 100000 in
set_option maxHeartbeats 2000000 in
theorem right_kind (b o : Nat) (y : X) (w : World) (hN : Node w b o y) (hk : ¬ (1 ≤ y.k ∧ y.k ≤ 17)) :
    Calls Tryz.prog 138 #[.pointer (some ⟨b, o, none⟩)] w fun e w' => e = .returned (.bool false) ∧ Below w.heap.size w w' := by
  have hE : Hid (∀ q : X, Boxed (two1 w b o q) w.heap.size 157 (.pointer (some ⟨b, o, none⟩)) ∧ Node (two1 w b o q) b o y ∧ Node (two1 w b o q) (w.heap.size + 1) 0 q ∧ Below w.heap.size w (two1 w b o q)) := fun q => two1_facts w b o y q hN
  have one : ∀ o1 : Obj, Node (w.alloc o1) b o y := fun o1 => hN.later ((Below.refl _ w).alloc (Nat.le_refl _) _)
  have cells : ∀ o1 o2 : Obj, Node ((w.alloc o1).alloc o2) b o y := fun o1 o2 => hN.later (((Below.refl _ w).alloc (Nat.le_refl _) _).alloc (by simp) _)
  have a0 : ∀ o1 : Obj, (w.alloc o1).cell? ⟨b, o, none⟩ = some (.int .i64 y.k) := fun o1 => (one o1).1
  have a6 : ∀ o1 : Obj, (w.alloc o1).cell? ⟨b, o + 6, none⟩ = some (.slice y.a y.n y.cap) := fun o1 => (one o1).2.2.2.2.2.2
  have c0 : ∀ o1 o2 : Obj, ((w.alloc o1).alloc o2).cell? ⟨b, o, none⟩ = some (.int .i64 y.k) := fun o1 o2 => (cells o1 o2).1
  have c6 : ∀ o1 o2 : Obj, ((w.alloc o1).alloc o2).cell? ⟨b, o + 6, none⟩ = some (.slice y.a y.n y.cap) := fun o1 o2 => (cells o1 o2).2.2.2.2.2.2
  have hB6 : Hid True := trivial
  have e1 : (y.k == 1) = false := by simp; omega
  have e2 : (y.k == 2) = false := by simp; omega
  have e3 : (y.k == 3) = false := by simp; omega
  have e4 : (y.k == 4) = false := by simp; omega
  have e5 : (y.k == 5) = false := by simp; omega
  have e6 : (y.k == 6) = false := by simp; omega
  have e7 : (y.k == 7) = false := by simp; omega
  have e8 : (y.k == 8) = false := by simp; omega
  have e9 : (y.k == 9) = false := by simp; omega
  have e10 : (y.k == 10) = false := by simp; omega
  have e11 : (y.k == 11) = false := by simp; omega
  have e12 : (y.k == 12) = false := by simp; omega
  have e13 : (y.k == 13) = false := by simp; omega
  have e14 : (y.k == 14) = false := by simp; omega
  have e15 : (y.k == 15) = false := by simp; omega
  have e16 : (y.k == 16) = false := by simp; omega
  have e17 : (y.k == 17) = false := by simp; omega
  clear hk
  clear hN one cells hB6
  go_enter Tryz.func138, Tryz.ntmps138
  go_wp2_with fail
  go_region
  go_wp2_with fail
  go_wp2
  go_ret
  exact ⟨rfl, (hE.out (X.mk y.k val0 ⟨#[]⟩ ⟨#[]⟩ y.a y.n y.cap y.c)).2.2.2.drew⟩
end Go.Proofs.YtkfpgkohkhhlhaaGreatDoor
namespace Go.Proofs.YtkfpgkohkhhlhaaGreatDoor
open Go.RowKit

theorem ret_iff {w : World} {f : Nat} {args : Array Value} {r : Bool} {P : Prop} (h : Calls Tryz.prog f args w fun e w' => e = .returned (.bool r) ∧ Below w.heap.size w w') (hr : r = true ↔ P) :
    Calls Tryz.prog f args w fun e w' => ∃ r, e = .returned (.bool r) ∧ (r = true ↔ P) ∧ Below w.heap.size w w' :=
  h.mono fun _ _ ⟨h1, h2⟩ => ⟨r, h1, hr, h2⟩
theorem rightX_any (b o : Nat) (y : X) (w : World) (hN : Node w b o y) (hY : IsX w y) :
    Calls Tryz.prog 138 #[.pointer (some ⟨b, o, none⟩)] w fun e w' => ∃ r, e = .returned (.bool r) ∧ (r = true ↔ NodeR y) ∧ Below w.heap.size w w' := by
  by_cases h1 : y.k = 1
  · have e : ownC y = X.mk 1 y.v ⟨#[]⟩ ⟨#[]⟩ none 0 0 (fun _ => .nil) := by unfold ownC; rw [h1]
    cases hr : rightB y.v.k y.v.n y.v.s with
    | true => exact ret_iff (right_C_true b o y w hN h1 hr) (by rw [nodeR_C y h1, e, hr]; simp)
    | false => exact ret_iff (right_C_false b o y w hN h1 hr) (by rw [nodeR_C y h1, hr]; simp)
  by_cases h2 : y.k = 2
  · have e : ownF y = X.mk 2 val0 y.s y.f none 0 0 (fun _ => .nil) := by unfold ownF; rw [h2]
    cases hs : nameB y.s with
    | false => exact ret_iff (right_F_false b o y w hN h2 hs) (by rw [nodeR_F y h2, hs]; simp)
    | true =>
      cases hf : nameB y.f with
      | false => exact ret_iff (right_F_tfalse b o y w hN h2 hs hf) (by rw [nodeR_F y h2, hf]; simp)
      | true => exact ret_iff (right_F_ttrue b o y w hN h2 hs hf) (by rw [nodeR_F y h2, e, hs, hf]; simp)
  have e : ∀ k : Int, y.k = k → ownP y = X.mk k val0 ⟨#[]⟩ ⟨#[]⟩ y.a y.n y.cap y.c := fun k hk => by unfold ownP; rw [hk]
  by_cases h3 : y.k = 3
  · by_cases hn : y.n = 1
    · exact ret_iff (right_3_t b o y w hN h3 hn) (by rw [nodeR_one y (by omega), e _ h3]; simp [hn])
    · exact ret_iff (right_3_f b o y w hN h3 hn) (by rw [nodeR_one y (by omega)]; simp [hn])
  by_cases h15 : y.k = 15
  · by_cases hn : y.n = 1
    · exact ret_iff (right_15_t b o y w hN h15 hn) (by rw [nodeR_one y (by omega), e _ h15]; simp [hn])
    · exact ret_iff (right_15_f b o y w hN h15 hn) (by rw [nodeR_one y (by omega)]; simp [hn])
  by_cases h4 : y.k = 4
  · by_cases hn : y.n = 2
    · exact ret_iff (right_4_t b o y w hN h4 hn) (by rw [nodeR_two y (by omega), e _ h4]; simp [hn])
    · exact ret_iff (right_4_f b o y w hN h4 hn) (by rw [nodeR_two y (by omega)]; simp [hn])
  by_cases h5 : y.k = 5
  · by_cases hn : y.n = 2
    · exact ret_iff (right_5_t b o y w hN h5 hn) (by rw [nodeR_two y (by omega), e _ h5]; simp [hn])
    · exact ret_iff (right_5_f b o y w hN h5 hn) (by rw [nodeR_two y (by omega)]; simp [hn])
  by_cases h6 : y.k = 6
  · by_cases hn : y.n = 2
    · exact ret_iff (right_6_t b o y w hN h6 hn) (by rw [nodeR_two y (by omega), e _ h6]; simp [hn])
    · exact ret_iff (right_6_f b o y w hN h6 hn) (by rw [nodeR_two y (by omega)]; simp [hn])
  by_cases h7 : y.k = 7
  · by_cases hn : y.n = 2
    · exact ret_iff (right_7_t b o y w hN h7 hn) (by rw [nodeR_two y (by omega), e _ h7]; simp [hn])
    · exact ret_iff (right_7_f b o y w hN h7 hn) (by rw [nodeR_two y (by omega)]; simp [hn])
  by_cases h8 : y.k = 8
  · by_cases hn : y.n = 2
    · exact ret_iff (right_8_t b o y w hN h8 hn) (by rw [nodeR_two y (by omega), e _ h8]; simp [hn])
    · exact ret_iff (right_8_f b o y w hN h8 hn) (by rw [nodeR_two y (by omega)]; simp [hn])
  by_cases h9 : y.k = 9
  · by_cases hn : y.n = 2
    · exact ret_iff (right_9_t b o y w hN h9 hn) (by rw [nodeR_two y (by omega), e _ h9]; simp [hn])
    · exact ret_iff (right_9_f b o y w hN h9 hn) (by rw [nodeR_two y (by omega)]; simp [hn])
  by_cases h10 : y.k = 10
  · by_cases hn : y.n = 2
    · exact ret_iff (right_10_t b o y w hN h10 hn) (by rw [nodeR_two y (by omega), e _ h10]; simp [hn])
    · exact ret_iff (right_10_f b o y w hN h10 hn) (by rw [nodeR_two y (by omega)]; simp [hn])
  by_cases h11 : y.k = 11
  · by_cases hn : y.n = 2
    · exact ret_iff (right_11_t b o y w hN h11 hn) (by rw [nodeR_two y (by omega), e _ h11]; simp [hn])
    · exact ret_iff (right_11_f b o y w hN h11 hn) (by rw [nodeR_two y (by omega)]; simp [hn])
  by_cases h12 : y.k = 12
  · by_cases hn : y.n = 2
    · exact ret_iff (right_12_t b o y w hN h12 hn) (by rw [nodeR_two y (by omega), e _ h12]; simp [hn])
    · exact ret_iff (right_12_f b o y w hN h12 hn) (by rw [nodeR_two y (by omega)]; simp [hn])
  by_cases h13 : y.k = 13
  · by_cases hn : y.n = 2
    · exact ret_iff (right_13_t b o y w hN h13 hn) (by rw [nodeR_two y (by omega), e _ h13]; simp [hn])
    · exact ret_iff (right_13_f b o y w hN h13 hn) (by rw [nodeR_two y (by omega)]; simp [hn])
  by_cases h14 : y.k = 14
  · by_cases hn : y.n = 2
    · exact ret_iff (right_14_t b o y w hN h14 hn) (by rw [nodeR_two y (by omega), e _ h14]; simp [hn])
    · exact ret_iff (right_14_f b o y w hN h14 hn) (by rw [nodeR_two y (by omega)]; simp [hn])
  by_cases h16 : y.k = 16
  · by_cases hn : 2 ≤ y.n
    · by_cases hx : ∃ i, i < y.n ∧ (y.c i).k = y.k
      · refine ret_iff (right_16_true b o y w hN hY h16 hn hx) ⟨fun h => (by cases h), fun h => ?_⟩
        obtain ⟨i, hi, he⟩ := hx
        exact absurd he (((nodeR_many y (by omega)).1 h).1.2 i hi)
      · refine ret_iff (right_16_false b o y w hN hY h16 hn hx) ?_
        rw [nodeR_many y (by omega), e _ h16]
        constructor
        · intro h
          exact ⟨⟨hn, fun i hi he => hx ⟨i, hi, he⟩⟩, by simpa using h⟩
        · intro h
          simpa using h.2
    · exact ret_iff (right_16_few b o y w hN h16 hn) ⟨fun h => (by cases h), fun h => absurd ((nodeR_many y (by omega)).1 h).1.1 hn⟩
  by_cases h17 : y.k = 17
  · by_cases hn : 2 ≤ y.n
    · by_cases hx : ∃ i, i < y.n ∧ (y.c i).k = y.k
      · refine ret_iff (right_17_true b o y w hN hY h17 hn hx) ⟨fun h => (by cases h), fun h => ?_⟩
        obtain ⟨i, hi, he⟩ := hx
        exact absurd he (((nodeR_many y (by omega)).1 h).1.2 i hi)
      · refine ret_iff (right_17_false b o y w hN hY h17 hn hx) ?_
        rw [nodeR_many y (by omega), e _ h17]
        constructor
        · intro h
          exact ⟨⟨hn, fun i hi he => hx ⟨i, hi, he⟩⟩, by simpa using h⟩
        · intro h
          simpa using h.2
    · exact ret_iff (right_17_few b o y w hN h17 hn) ⟨fun h => (by cases h), fun h => absurd ((nodeR_many y (by omega)).1 h).1.1 hn⟩
  have hk : ¬ (1 ≤ y.k ∧ y.k ≤ 17) := by omega
  exact ret_iff (right_kind b o y w hN hk) ⟨fun h => (by cases h), fun h => absurd h (nodeR_none y hk)⟩
end Go.Proofs.YtkfpgkohkhhlhaaGreatDoor
namespace Go.Proofs.YtkfpgkohkhhlhaaGreatDoor
open Go.RowKit Go.Shelf

theorem size_any (x : X) (w : World) (hX : IsX w x) : Calls Tryz.prog 99 #[x.val] w fun e w' => e = .returned (.int .i64 (cnt x.size)) ∧ Below w.heap.size w w' :=
  (callsIn_wide (n := 3)).1 (size_in 3 x w hX)
theorem Node.at0 {w : World} {B : Nat} {x : X} (h : Node w B 0 x) : w.cell? ⟨B, 0, none⟩ = some (.int .i64 x.k) ∧ w.cell? ⟨B, 1, none⟩ = some (.int .i64 x.v.k) ∧ w.cell? ⟨B, 2, none⟩ = some (.int .i64 x.v.n) ∧ w.cell? ⟨B, 3, none⟩ = some (.string x.v.s) ∧
    w.cell? ⟨B, 4, none⟩ = some (.string x.s) ∧ w.cell? ⟨B, 5, none⟩ = some (.string x.f) ∧ w.cell? ⟨B, 6, none⟩ = some (.slice x.a x.n x.cap) := by
  have := h
  simp only [Node, Nat.zero_add] at this
  exact this
end Go.Proofs.YtkfpgkohkhhlhaaGreatDoor
namespace Go.Proofs.YtkfpgkohkhhlhaaGreatDoor
open Go.RowKit Go.Shelf
attribute [local go_sem] Oper.semAt_some

theorem XT.is {T : Nat → Prop} {w : World} : ∀ {x : X}, XT T w x → IsX w x := by
  refine @(X.ind fun x ih hx => ?_)
  rw [xT_eq] at hx
  rw [isX_eq]
  refine ⟨hx.1, hx.2.1, fun i hi => ?_⟩
  obtain ⟨b, o, e, hb, hn, hc⟩ := hx.2.2 i hi
  exact ⟨b, o, e, hn, ih i hi hc⟩
/-- What Check answers. -/
def ChkX (x : X) (r : Int) : Prop := (100 < x.size ∧ r = 2) ∨ (x.size ≤ 100 ∧ TreeR x ∧ r = 0) ∨ (x.size ≤ 100 ∧ ¬ TreeR x ∧ r = 1)
theorem ChkX.one {x : X} {r s : Int} (h : ChkX x r) (g : ChkX x s) : r = s := by
  rcases h with ⟨h1, h2⟩ | ⟨h1, h2, h3⟩ | ⟨h1, h2, h3⟩ <;> rcases g with ⟨g1, g2⟩ | ⟨g1, g2, g3⟩ | ⟨g1, g2, g3⟩ <;> first | omega | exact absurd ‹TreeR x› ‹¬ TreeR x› | skip
/-- How far Check has come. -/
def SaidAt (pre : List (Int × X)) (sd : Int) : Prop := (sd = 0 ∧ ∀ v ∈ pre, NodeR v.2) ∨ (sd = 1 ∧ ¬ ∀ v ∈ pre, NodeR v.2)
theorem SaidAt.yes {pre : List (Int × X)} {sd : Int} {v : Int × X} (h : SaidAt pre sd) (hv : NodeR v.2) : SaidAt (pre ++ [v]) sd := by
  rcases h with ⟨h1, h2⟩ | ⟨h1, h2⟩
  · refine .inl ⟨h1, fun u hu => ?_⟩
    rcases List.mem_append.1 hu with hu | hu
    · exact h2 u hu
    · rw [List.mem_singleton] at hu; rw [hu]; exact hv
  · exact .inr ⟨h1, fun h => h2 fun u hu => h u (List.mem_append_left _ hu)⟩
theorem SaidAt.no {pre : List (Int × X)} {v : Int × X} (hv : ¬ NodeR v.2) : SaidAt (pre ++ [v]) 1 := .inr ⟨rfl, fun h => hv (h v (by simp))⟩
set_option maxRecDepth 100000 in
set_option maxHeartbeats 4000000 in
theorem check_in (n : Nat) (x : X) (w : World) (hX : IsX w x) :
    CallsIn Fence.wide n Tryz.prog 98 #[x.val] w fun e w' => ∃ r : Int, e = .returned (.int .i64 r) ∧ ChkX x r ∧ Below w.heap.size w w' := by
  have hdd : ∀ k : Nat, (Fence.wide.depth.isSome = true → 1 ≤ k) := fun k h => by cases h
  refine callsIn_of_wp_marks Tryz.func98 rfl trivial ?_ rfl
  simp only [Tryz.ntmps98, List.size_toArray, List.length_cons, List.length_nil, Nat.reduceAdd, Nat.reduceSub, Array.replicate_succ, Array.replicate_zero, List.push_toArray, List.append_toArray, List.nil_append, List.cons_append]
  gi_wp2_with (refine ⟨trivial, hdd _, ?_⟩; gi_at_call 96; refine (nodes_in _ _ _).mono ?_; rintro e w' ⟨rfl, rfl⟩)
  obtain ⟨A, hA⟩ : ∃ A, (((((w.alloc (.cells x.cells 54)).alloc (.cells #[.int .i64 0] 32)).alloc (.cells #[.int .i64 0] 3)).alloc (.cells #[.int .i64 0] 32)).alloc (.cells #[.pointer (some ⟨w.heap.size, 0, none⟩)] 157)) = A := ⟨_, rfl⟩
  have hsz : A.heap.size = w.heap.size + 5 := by rw [← hA]; simp
  have hB : Below w.heap.size w A := by rw [← hA]; exact (((((Below.refl _ w).alloc (Nat.le_refl _) _).alloc (by simp) _).alloc (by first | (simp; done) | (simp; omega)) _).alloc (by first | (simp; done) | (simp; omega)) _).alloc (by first | (simp; done) | (simp; omega)) _
  have hnode : Node A w.heap.size 0 x := by
    rw [← hA]
    exact (node_new w 54 x).later (((((Below.refl _ _).alloc (Nat.le_refl _) _).alloc (by simp) _).alloc (by first | (simp; done) | (simp; omega)) _).alloc (by first | (simp; done) | (simp; omega)) _)
  have hb1 : Boxed A (w.heap.size + 1) 32 (.int .i64 0) := by
    have := (((Boxed.new (w.alloc (.cells x.cells 54)) 32 (.int .i64 0)).alloc (.cells #[.int .i64 0] 3)).alloc (.cells #[.int .i64 0] 32)).alloc (.cells #[.pointer (some ⟨w.heap.size, 0, none⟩)] 157)
    rw [World.size_alloc, hA] at this
    exact this
  have hb2 : Boxed A (w.heap.size + 1 + 1) 3 (.int .i64 0) := by
    have := ((Boxed.new ((w.alloc (.cells x.cells 54)).alloc (.cells #[.int .i64 0] 32)) 3 (.int .i64 0)).alloc (.cells #[.int .i64 0] 32)).alloc (.cells #[.pointer (some ⟨w.heap.size, 0, none⟩)] 157)
    rw [World.size_alloc, World.size_alloc, hA] at this
    exact this
  have hb3 : Boxed A (w.heap.size + 1 + 1 + 1) 32 (.int .i64 0) := by
    have := (Boxed.new (((w.alloc (.cells x.cells 54)).alloc (.cells #[.int .i64 0] 32)).alloc (.cells #[.int .i64 0] 3)) 32 (.int .i64 0)).alloc (.cells #[.pointer (some ⟨w.heap.size, 0, none⟩)] 157)
    rw [World.size_alloc, World.size_alloc, World.size_alloc, hA] at this
    exact this
  have hbp : Boxed A (w.heap.size + 1 + 1 + 1 + 1) 157 (.pointer (some ⟨w.heap.size, 0, none⟩)) := by
    have := Boxed.new ((((w.alloc (.cells x.cells 54)).alloc (.cells #[.int .i64 0] 32)).alloc (.cells #[.int .i64 0] 3)).alloc (.cells #[.int .i64 0] 32)) 157 (.pointer (some ⟨w.heap.size, 0, none⟩))
    rw [World.size_alloc, World.size_alloc, World.size_alloc, World.size_alloc, hA] at this
    exact this
  rw [hA]
  refine nodes_fold (w.heap.size + 1 + 1 + 1 + 1) w.heap.size 0 x (fun k => k < w.heap.size + 1)
    (fun pre W => Boxed W (w.heap.size + 1) 32 (.int .i64 0) ∧ Boxed W (w.heap.size + 1 + 1) 3 (.int .i64 (pre.length : Int)) ∧ (∃ sd, Boxed W (w.heap.size + 1 + 1 + 1) 32 (.int .i64 sd) ∧ SaidAt pre sd) ∧ pre.length ≤ 100 ∧ Below w.heap.size w W)
    (fun c W => c = .ret ∧ 100 < x.size ∧ Boxed W (w.heap.size + 1) 32 (.int .i64 2) ∧ Below w.heap.size w W)
    rfl rfl hbp.cell (fun k hk => by omega) (by omega) hnode (XIn.xt (n := w.heap.size) (fun k hk => by omega) (hX.inn.below hB)) ?_ ?_ ?_ ?_
    (fun d b o => { tmps := #[x.val, .pointer (some ⟨w.heap.size, 0, none⟩), .pointer (some ⟨w.heap.size + 1, 0, none⟩), .pointer (some ⟨w.heap.size + 1 + 1, 0, none⟩), .pointer (some ⟨w.heap.size + 1 + 1 + 1, 0, none⟩), undef, .pointer (some ⟨b, o, none⟩), .func (.func 136) #[] #[.pointer (some ⟨w.heap.size + 1 + 1 + 1 + 1, 0, none⟩)], .int .i64 d, .pointer (some ⟨b, o, none⟩), undef, undef, undef, undef, undef, undef, undef, undef], defers := [] }) ?_ ?_ ?_ ?_
  · rintro pre W B hag ⟨h1, h2, ⟨sd, h3, h4⟩, h5, h6⟩
    exact ⟨hag.boxed h1, hag.boxed h2, ⟨sd, hag.boxed h3, h4⟩, h5, hag.below (by omega) h6⟩
  · exact fun pre W h => ⟨h.1, h.2.1, h.2.2.1, h.2.2.2.1, h.2.2.2.2.drew⟩
  · exact fun W h => ⟨Boxed.kept_of hb1 h (by omega), Boxed.kept_of hb2 h (by omega), ⟨0, Boxed.kept_of hb3 h (by omega), .inl ⟨rfl, by simp⟩⟩, by simp, hB.trans (h.mono (by omega))⟩
  · rintro c W B hag ⟨h1, h2, h3, h4⟩
    exact ⟨h1, h2, hag.boxed h3, hag.below (by omega) h4⟩
  · intro l d b o W K hK
    gi_wp2
    first | exact hK | simpa using hK
  · rintro l d b o y pre W hb hn hx ⟨h1, h2, ⟨sd, h3, h4⟩, h5, h6⟩ hs hlt
    rw [length_vis] at hlt
    have c2 := h2.cell
    have f2 := h2.frozen
    obtain ⟨m, hm⟩ : ∃ m, m = pre.length := ⟨_, rfl⟩
    have HM : Hid (m = pre.length) := hm
    rw [← hm] at c2 h2 h5 hlt
    have e1 := h1.other (show w.heap.size + 1 ≠ w.heap.size + 1 + 1 by omega) (.int .i64 ((m : Int) + 1))
    have e2 := h2.set (.int .i64 ((m : Int) + 1))
    have e3 := h3.other (show w.heap.size + 1 + 1 + 1 ≠ w.heap.size + 1 + 1 by omega) (.int .i64 ((m : Int) + 1))
    have kp1 : Kp (fun k => k < w.heap.size + 1 ∨ k = A.heap.size + 2 ∨ k = A.heap.size + 3) W (W.setCell ⟨w.heap.size + 1 + 1, 0, none⟩ (.int .i64 ((m : Int) + 1))) := Kp.set _ (by simp; omega)
    have n1 : Node (W.setCell ⟨w.heap.size + 1 + 1, 0, none⟩ (.int .i64 ((m : Int) + 1))) b o y := hn.kept kp1 (.inl hb)
    have x1 : IsX (W.setCell ⟨w.heap.size + 1 + 1, 0, none⟩ (.int .i64 ((m : Int) + 1))) y := (hx.kept (kp1.mono fun k hk => .inl hk)).is
    have b1 : Below w.heap.size w (W.setCell ⟨w.heap.size + 1 + 1, 0, none⟩ (.int .i64 ((m : Int) + 1))) := h6.setCell (p := ⟨w.heap.size + 1 + 1, 0, none⟩) (by simp; omega) _
    have k1 : KeepsOthers W (W.setCell ⟨w.heap.size + 1 + 1, 0, none⟩ (.int .i64 ((m : Int) + 1))) := KeepsOthers.setCell _ _ _
    have g1 := e1.cell
    have g2 := e2.cell
    have i1 := e1.frozen
    by_cases hm100 : 100 < m + 1
    · have hm' : (100 : Int) < (m : Int) + 1 := by omega
      clear hm
      gi_wp2
      exact ⟨(k1.trans (KeepsOthers.setCell _ _ _)).from _, rfl, by omega, e1.set _, b1.setCell (p := ⟨w.heap.size + 1, 0, none⟩) (by simp) _⟩
    · have hm' : ¬ (100 : Int) < (m : Int) + 1 := by omega
      have hr := rightX_any b o y _ n1 x1
      have hl1 : (pre ++ [(d, y)]).length = m + 1 := by simp [hm]
      clear hm
      gi_wp2_with (refine ⟨trivial, hdd _, ?_⟩; gi_at_call 138; refine (CallsIn.inRound l (callsIn_wide.2 hr)).mono ?_; rintro e w2 ⟨r, rfl, hrr, hB2⟩; have q3 := Boxed.kept_of e3 hB2 (Boxed.lt e3); have gq3 := q3.cell; have fq3 := q3.frozen; have HRR : Hid (r = true ↔ NodeR y) := hrr; clear hrr; cases r)
      · have hno : ¬ NodeR y := fun h => by have := HRR.out.2 h; cases this
        refine ⟨((k1.trans ⟨hB2.size, fun k o ho _ => (hB2.block k (Array.getElem?_eq_some_iff.1 ho).1).trans ho⟩).trans (KeepsOthers.setCell _ _ _)).from _, ?_, ?_, ?_, ⟨1, q3.set _, SaidAt.no hno⟩, by rw [hl1]; omega, ?_⟩
        · exact (kp1.trans (fun k o _ _ ho => (hB2.block k (Array.getElem?_eq_some_iff.1 ho).1).trans ho)).trans (Kp.set _ (by simp; omega))
        · exact (Boxed.kept_of e1 hB2 (Boxed.lt e1)).other (by omega) _
        · rw [hl1]; exact (Boxed.kept_of e2 hB2 (Boxed.lt e2)).other (by omega) _
        · exact (b1.trans (hB2.mono b1.size)).setCell (p := ⟨w.heap.size + 1 + 1 + 1, 0, none⟩) (by simp; omega) _
      · have hyes : NodeR y := HRR.out.1 (by first | rfl | trivial)
        refine ⟨(k1.trans ⟨hB2.size, fun k o ho _ => (hB2.block k (Array.getElem?_eq_some_iff.1 ho).1).trans ho⟩).from _, ?_, ?_, ?_, ⟨sd, q3, h4.yes hyes⟩, by rw [hl1]; omega, ?_⟩
        · exact kp1.trans (fun k o _ _ ho => (hB2.block k (Array.getElem?_eq_some_iff.1 ho).1).trans ho)
        · exact Boxed.kept_of e1 hB2 (Boxed.lt e1)
        · rw [hl1]; exact Boxed.kept_of e2 hB2 (Boxed.lt e2)
        · exact b1.trans (hB2.mono b1.size)
  · rintro D W hD ⟨h1, h2, ⟨sd, h3, h4⟩, h5, h6⟩ hK
    rw [length_vis] at h5
    have c1 := h1.cell
    have f1 := h1.frozen
    have c3 := h3.cell
    have hK' : (W.setCell ⟨w.heap.size + 1, 0, none⟩ (.int .i64 sd)).heap[D]? = some (.deferred (some [])) := (KeepsOthers.setCell _ _ _).same D _ hK rfl
    have hc5 := cell_kept (h1.set (.int .i64 sd)).cell (grownBy_putObj' _ D (.deferred none)) (fun r e => by cases e; exact ⟨_, hK', rfl⟩)
    gi_wp2
    refine ⟨by simp, .inl ⟨_, _, rfl, run_takeDeferred hK', ?_⟩⟩
    refine ⟨.int .i64 sd, ?_, sd, rfl, ?_, (h6.setCell (p := ⟨w.heap.size + 1, 0, none⟩) (by simp) _).trans (belowK_b (w := w) (Nat.le_refl _) _ D _ _ (by omega) hK' rfl rfl)⟩
    · simp [results, Tryz.f98, go_sem, hc5]
    · rcases h4 with ⟨e, h⟩ | ⟨e, h⟩
      · exact .inr (.inl ⟨h5, (treeR_vis x 1).2 h, e⟩)
      · exact .inr (.inr ⟨h5, fun t => h ((treeR_vis x 1).1 t), e⟩)
  · rintro D c W hD ⟨rfl, h0, h1, h2⟩ hK
    have hc5 := cell_kept h1.cell (grownBy_putObj' _ D (.deferred none)) (fun r e => by cases e; exact ⟨_, hK, rfl⟩)
    gi_wp2
    refine ⟨by simp, .inl ⟨_, _, rfl, run_takeDeferred hK, ?_⟩⟩
    refine ⟨.int .i64 2, ?_, 2, rfl, .inl ⟨h0, rfl⟩, h2.trans (belowK_b (w := w) (Nat.le_refl _) _ D _ _ (by omega) hK rfl rfl)⟩
    simp [results, Tryz.f98, go_sem, hc5]
theorem checkX_any (x : X) (w : World) (hX : IsX w x) : Calls Tryz.prog 98 #[x.val] w fun e w' => ∃ r : Int, e = .returned (.int .i64 r) ∧ ChkX x r ∧ Below w.heap.size w w' :=
  (callsIn_wide (n := 3)).1 (check_in 3 x w hX)
end Go.Proofs.YtkfpgkohkhhlhaaGreatDoor
namespace Go.Proofs.YtkfpgkohkhhlhaaGreatDoor
open Go.RowKit

/-- May a PMany have these? -/
def cntB (lo hi : Int) : Bool := decide (1 ≤ lo) && (decide (lo ≤ 1000) && ((hi == 0 || (decide (lo ≤ hi) && decide (hi ≤ 1000))) && !(lo == 1 && hi == 1)))
def emptyB (s : ByteArray) : Bool := s.toList == []
/-- Is one of the parts of the same kind? -/
def ownB (x : Pt) : Bool := !allN (fun i => !((x.c i).k == x.k)) x.n
/-- Is a node right, its parts aside? -/
def leafB (x : Pt) : Bool := nameB x.s && (nameB x.t && (x.lo == 0 && (x.hi == 0 && x.n == 0)))
def manyB (x : Pt) : Bool := nameB x.s && (nameB x.t && (cntB x.lo x.hi && x.n == 0))
def rowB (x : Pt) : Bool := emptyB x.s && (emptyB x.t && (x.lo == 0 && (x.hi == 0 && (decide (2 ≤ x.n) && !ownB x))))
def isRow (k : Int) : Bool := k == 2 || k == 3 || k == 4
def rightN (x : Pt) : Bool := if isRow x.k = true then rowB x else if x.k = 5 then manyB x else if x.k = 1 ∨ x.k = 6 then leafB x else false
/-- Is all of it right? -/
def rightP : Pt → Bool
  | .nil => rightN .nil
  | .mk k s t lo hi a n cap c => rightN (.mk k s t lo hi a n cap c) && allN (fun i => rightP (c i)) n
theorem rightP_eq (x : Pt) : rightP x = (rightN x && allN (fun i => rightP (x.c i)) x.n) := by
  cases x with
  | nil => show rightN .nil = (rightN .nil && true); simp
  | mk => rfl
theorem right_vis : ∀ (x : Pt) (d : Nat), rightP x = true ↔ ∀ v ∈ visP d x, rightN v.2 = true := by
  refine Pt.ind fun x ih d => ?_
  rw [rightP_eq, Bool.and_eq_true, allN_true, visP_eq]
  constructor
  · rintro ⟨h1, h2⟩ v hv
    rcases List.mem_cons.1 hv with rfl | hv
    · exact h1
    · obtain ⟨i, hi, hv⟩ := mem_catN.1 hv
      exact (ih i hi (d + 1)).1 (h2 i hi) v hv
  · intro h
    exact ⟨h (d, x) (by simp), fun i hi => (ih i hi (d + 1)).2 fun v hv => h v (List.mem_cons_of_mem _ (mem_catN.2 ⟨i, hi, hv⟩))⟩
/-- What Check answers. -/
def chkP (x : Pt) : Int := if 64 < x.size ∨ 8 < x.deep then 2 else if rightP x = true then 0 else 1
theorem chkP_zero {x : Pt} : chkP x = 0 ↔ x.size ≤ 64 ∧ x.deep ≤ 8 ∧ rightP x = true := by
  unfold chkP
  by_cases h : 64 < x.size ∨ 8 < x.deep
  · rw [if_pos h]
    constructor
    · intro e; omega
    · rintro ⟨h1, h2, _⟩; omega
  · rw [if_neg h]
    by_cases hr : rightP x = true
    · rw [if_pos hr]
      exact ⟨fun _ => ⟨by omega, by omega, hr⟩, fun _ => rfl⟩
    · rw [if_neg hr]
      exact ⟨fun e => by omega, fun e => absurd e.2.2 hr⟩
end Go.Proofs.YtkfpgkohkhhlhaaGreatDoor
