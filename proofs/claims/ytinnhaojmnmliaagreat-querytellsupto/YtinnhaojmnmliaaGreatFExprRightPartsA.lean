/-
  expr.right at a node that has parts.
-/
import Derived.Test.YtinnhaojmnmliaaGreatEWordName
namespace Go.Proofs.YtinnhaojmnmliaaGreat
open Go.RowKit

set_option maxRecDepth 100000 in
set_option maxHeartbeats 2000000 in
theorem right_3_t (b o : Nat) (y : X) (w : World) (hN : Node w b o y) (hk : y.k = 3) (hn : y.n = 1) :
    Calls Tryz.prog 87 #[.pointer (some ⟨b, o, none⟩)] w fun e w' => e = .returned (.bool (alZ y (X.mk 3 val0 ⟨#[]⟩ ⟨#[]⟩ y.a y.n y.cap y.c) == 0)) ∧ Below w.heap.size w w' := by
  have hE : Hid (∀ q : X, Boxed (two1 w b o q) w.heap.size 81 (.pointer (some ⟨b, o, none⟩)) ∧ Node (two1 w b o q) b o y ∧ Node (two1 w b o q) (w.heap.size + 1) 0 q ∧ Below w.heap.size w (two1 w b o q)) := fun q => two1_facts w b o y q hN
  have one : ∀ o1 : Obj, Node (w.alloc o1) b o y := fun o1 => hN.later ((Below.refl _ w).alloc (Nat.le_refl _) _)
  have cells : ∀ o1 o2 : Obj, Node ((w.alloc o1).alloc o2) b o y := fun o1 o2 => hN.later (((Below.refl _ w).alloc (Nat.le_refl _) _).alloc (by simp) _)
  have a0 : ∀ o1 : Obj, (w.alloc o1).cell? ⟨b, o, none⟩ = some (.int .i64 3) := fun o1 => by rw [← hk]; exact (one o1).1
  have a6 : ∀ o1 : Obj, (w.alloc o1).cell? ⟨b, o + 6, none⟩ = some (.slice y.a y.n y.cap) := fun o1 => (one o1).2.2.2.2.2.2
  have c0 : ∀ o1 o2 : Obj, ((w.alloc o1).alloc o2).cell? ⟨b, o, none⟩ = some (.int .i64 3) := fun o1 o2 => by rw [← hk]; exact (cells o1 o2).1
  have c6 : ∀ o1 o2 : Obj, ((w.alloc o1).alloc o2).cell? ⟨b, o + 6, none⟩ = some (.slice y.a y.n y.cap) := fun o1 o2 => (cells o1 o2).2.2.2.2.2.2
  have hB6 : Hid True := trivial
  have hn' : ((y.n : Int) == 1) = true := by simp; omega
  clear hn
  clear hN one cells hB6
  go_enter Tryz.func87, Tryz.ntmps87
  go_wp2_with fail
  go_region
  go_wp2_with fail
  go_wp2_with (go_at_call 95; refine (alone_any b o (w.heap.size + 1) 0 y (X.mk 3 val0 ⟨#[]⟩ ⟨#[]⟩ y.a y.n y.cap y.c) (two1 w b o (X.mk 3 val0 ⟨#[]⟩ ⟨#[]⟩ y.a y.n y.cap y.c)).drew (hE.out (X.mk 3 val0 ⟨#[]⟩ ⟨#[]⟩ y.a y.n y.cap y.c)).2.1 (hE.out (X.mk 3 val0 ⟨#[]⟩ ⟨#[]⟩ y.a y.n y.cap y.c)).2.2.1).mono ?_; rintro e x9 ⟨rfl, hN9⟩)
  go_ret
  have hT9 : Below (two1 w b o (X.mk 3 val0 ⟨#[]⟩ ⟨#[]⟩ y.a y.n y.cap y.c)).heap.size (two1 w b o (X.mk 3 val0 ⟨#[]⟩ ⟨#[]⟩ y.a y.n y.cap y.c)) x9 := undrawn hN9 rfl rfl rfl rfl
  exact ⟨rfl, (hE.out (X.mk 3 val0 ⟨#[]⟩ ⟨#[]⟩ y.a y.n y.cap y.c)).2.2.2.trans (hT9.mono (hE.out (X.mk 3 val0 ⟨#[]⟩ ⟨#[]⟩ y.a y.n y.cap y.c)).2.2.2.size)⟩
set_option maxRecDepth 100000 in
set_option maxHeartbeats 2000000 in
theorem right_3_f (b o : Nat) (y : X) (w : World) (hN : Node w b o y) (hk : y.k = 3) (hn : ¬ y.n = 1) :
    Calls Tryz.prog 87 #[.pointer (some ⟨b, o, none⟩)] w fun e w' => e = .returned (.bool false) ∧ Below w.heap.size w w' := by
  have hE : Hid (∀ q : X, Boxed (two1 w b o q) w.heap.size 81 (.pointer (some ⟨b, o, none⟩)) ∧ Node (two1 w b o q) b o y ∧ Node (two1 w b o q) (w.heap.size + 1) 0 q ∧ Below w.heap.size w (two1 w b o q)) := fun q => two1_facts w b o y q hN
  have one : ∀ o1 : Obj, Node (w.alloc o1) b o y := fun o1 => hN.later ((Below.refl _ w).alloc (Nat.le_refl _) _)
  have cells : ∀ o1 o2 : Obj, Node ((w.alloc o1).alloc o2) b o y := fun o1 o2 => hN.later (((Below.refl _ w).alloc (Nat.le_refl _) _).alloc (by simp) _)
  have a0 : ∀ o1 : Obj, (w.alloc o1).cell? ⟨b, o, none⟩ = some (.int .i64 3) := fun o1 => by rw [← hk]; exact (one o1).1
  have a6 : ∀ o1 : Obj, (w.alloc o1).cell? ⟨b, o + 6, none⟩ = some (.slice y.a y.n y.cap) := fun o1 => (one o1).2.2.2.2.2.2
  have c0 : ∀ o1 o2 : Obj, ((w.alloc o1).alloc o2).cell? ⟨b, o, none⟩ = some (.int .i64 3) := fun o1 o2 => by rw [← hk]; exact (cells o1 o2).1
  have c6 : ∀ o1 o2 : Obj, ((w.alloc o1).alloc o2).cell? ⟨b, o + 6, none⟩ = some (.slice y.a y.n y.cap) := fun o1 o2 => (cells o1 o2).2.2.2.2.2.2
  have hB6 : Hid True := trivial
  have hn' : ((y.n : Int) == 1) = false := by simp; omega
  clear hn
  clear hN one cells hB6
  go_enter Tryz.func87, Tryz.ntmps87
  go_wp2_with fail
  go_region
  go_wp2_with fail
  go_wp2
  go_ret
  exact ⟨rfl, (hE.out (X.mk 3 val0 ⟨#[]⟩ ⟨#[]⟩ y.a y.n y.cap y.c)).2.2.2.drew⟩
set_option maxRecDepth 100000 in
set_option maxHeartbeats 2000000 in
theorem right_15_t (b o : Nat) (y : X) (w : World) (hN : Node w b o y) (hk : y.k = 15) (hn : y.n = 1) :
    Calls Tryz.prog 87 #[.pointer (some ⟨b, o, none⟩)] w fun e w' => e = .returned (.bool (alZ y (X.mk 15 val0 ⟨#[]⟩ ⟨#[]⟩ y.a y.n y.cap y.c) == 0)) ∧ Below w.heap.size w w' := by
  have hE : Hid (∀ q : X, Boxed (two1 w b o q) w.heap.size 81 (.pointer (some ⟨b, o, none⟩)) ∧ Node (two1 w b o q) b o y ∧ Node (two1 w b o q) (w.heap.size + 1) 0 q ∧ Below w.heap.size w (two1 w b o q)) := fun q => two1_facts w b o y q hN
  have one : ∀ o1 : Obj, Node (w.alloc o1) b o y := fun o1 => hN.later ((Below.refl _ w).alloc (Nat.le_refl _) _)
  have cells : ∀ o1 o2 : Obj, Node ((w.alloc o1).alloc o2) b o y := fun o1 o2 => hN.later (((Below.refl _ w).alloc (Nat.le_refl _) _).alloc (by simp) _)
  have a0 : ∀ o1 : Obj, (w.alloc o1).cell? ⟨b, o, none⟩ = some (.int .i64 15) := fun o1 => by rw [← hk]; exact (one o1).1
  have a6 : ∀ o1 : Obj, (w.alloc o1).cell? ⟨b, o + 6, none⟩ = some (.slice y.a y.n y.cap) := fun o1 => (one o1).2.2.2.2.2.2
  have c0 : ∀ o1 o2 : Obj, ((w.alloc o1).alloc o2).cell? ⟨b, o, none⟩ = some (.int .i64 15) := fun o1 o2 => by rw [← hk]; exact (cells o1 o2).1
  have c6 : ∀ o1 o2 : Obj, ((w.alloc o1).alloc o2).cell? ⟨b, o + 6, none⟩ = some (.slice y.a y.n y.cap) := fun o1 o2 => (cells o1 o2).2.2.2.2.2.2
  have hB6 : Hid True := trivial
  have hn' : ((y.n : Int) == 1) = true := by simp; omega
  clear hn
  clear hN one cells hB6
  go_enter Tryz.func87, Tryz.ntmps87
  go_wp2_with fail
  go_region
  go_wp2_with fail
  go_wp2_with (go_at_call 95; refine (alone_any b o (w.heap.size + 1) 0 y (X.mk 15 val0 ⟨#[]⟩ ⟨#[]⟩ y.a y.n y.cap y.c) (two1 w b o (X.mk 15 val0 ⟨#[]⟩ ⟨#[]⟩ y.a y.n y.cap y.c)).drew (hE.out (X.mk 15 val0 ⟨#[]⟩ ⟨#[]⟩ y.a y.n y.cap y.c)).2.1 (hE.out (X.mk 15 val0 ⟨#[]⟩ ⟨#[]⟩ y.a y.n y.cap y.c)).2.2.1).mono ?_; rintro e x9 ⟨rfl, hN9⟩)
  go_ret
  have hT9 : Below (two1 w b o (X.mk 15 val0 ⟨#[]⟩ ⟨#[]⟩ y.a y.n y.cap y.c)).heap.size (two1 w b o (X.mk 15 val0 ⟨#[]⟩ ⟨#[]⟩ y.a y.n y.cap y.c)) x9 := undrawn hN9 rfl rfl rfl rfl
  exact ⟨rfl, (hE.out (X.mk 15 val0 ⟨#[]⟩ ⟨#[]⟩ y.a y.n y.cap y.c)).2.2.2.trans (hT9.mono (hE.out (X.mk 15 val0 ⟨#[]⟩ ⟨#[]⟩ y.a y.n y.cap y.c)).2.2.2.size)⟩
set_option maxRecDepth 100000 in
set_option maxHeartbeats 2000000 in
theorem right_15_f (b o : Nat) (y : X) (w : World) (hN : Node w b o y) (hk : y.k = 15) (hn : ¬ y.n = 1) :
    Calls Tryz.prog 87 #[.pointer (some ⟨b, o, none⟩)] w fun e w' => e = .returned (.bool false) ∧ Below w.heap.size w w' := by
  have hE : Hid (∀ q : X, Boxed (two1 w b o q) w.heap.size 81 (.pointer (some ⟨b, o, none⟩)) ∧ Node (two1 w b o q) b o y ∧ Node (two1 w b o q) (w.heap.size + 1) 0 q ∧ Below w.heap.size w (two1 w b o q)) := fun q => two1_facts w b o y q hN
  have one : ∀ o1 : Obj, Node (w.alloc o1) b o y := fun o1 => hN.later ((Below.refl _ w).alloc (Nat.le_refl _) _)
  have cells : ∀ o1 o2 : Obj, Node ((w.alloc o1).alloc o2) b o y := fun o1 o2 => hN.later (((Below.refl _ w).alloc (Nat.le_refl _) _).alloc (by simp) _)
  have a0 : ∀ o1 : Obj, (w.alloc o1).cell? ⟨b, o, none⟩ = some (.int .i64 15) := fun o1 => by rw [← hk]; exact (one o1).1
  have a6 : ∀ o1 : Obj, (w.alloc o1).cell? ⟨b, o + 6, none⟩ = some (.slice y.a y.n y.cap) := fun o1 => (one o1).2.2.2.2.2.2
  have c0 : ∀ o1 o2 : Obj, ((w.alloc o1).alloc o2).cell? ⟨b, o, none⟩ = some (.int .i64 15) := fun o1 o2 => by rw [← hk]; exact (cells o1 o2).1
  have c6 : ∀ o1 o2 : Obj, ((w.alloc o1).alloc o2).cell? ⟨b, o + 6, none⟩ = some (.slice y.a y.n y.cap) := fun o1 o2 => (cells o1 o2).2.2.2.2.2.2
  have hB6 : Hid True := trivial
  have hn' : ((y.n : Int) == 1) = false := by simp; omega
  clear hn
  clear hN one cells hB6
  go_enter Tryz.func87, Tryz.ntmps87
  go_wp2_with fail
  go_region
  go_wp2_with fail
  go_wp2
  go_ret
  exact ⟨rfl, (hE.out (X.mk 15 val0 ⟨#[]⟩ ⟨#[]⟩ y.a y.n y.cap y.c)).2.2.2.drew⟩
set_option maxRecDepth 100000 in
set_option maxHeartbeats 2000000 in
theorem right_4_t (b o : Nat) (y : X) (w : World) (hN : Node w b o y) (hk : y.k = 4) (hn : y.n = 2) :
    Calls Tryz.prog 87 #[.pointer (some ⟨b, o, none⟩)] w fun e w' => e = .returned (.bool (alZ y (X.mk 4 val0 ⟨#[]⟩ ⟨#[]⟩ y.a y.n y.cap y.c) == 0)) ∧ Below w.heap.size w w' := by
  have hE : Hid (∀ q : X, Boxed (two1 w b o q) w.heap.size 81 (.pointer (some ⟨b, o, none⟩)) ∧ Node (two1 w b o q) b o y ∧ Node (two1 w b o q) (w.heap.size + 1) 0 q ∧ Below w.heap.size w (two1 w b o q)) := fun q => two1_facts w b o y q hN
  have one : ∀ o1 : Obj, Node (w.alloc o1) b o y := fun o1 => hN.later ((Below.refl _ w).alloc (Nat.le_refl _) _)
  have cells : ∀ o1 o2 : Obj, Node ((w.alloc o1).alloc o2) b o y := fun o1 o2 => hN.later (((Below.refl _ w).alloc (Nat.le_refl _) _).alloc (by simp) _)
  have a0 : ∀ o1 : Obj, (w.alloc o1).cell? ⟨b, o, none⟩ = some (.int .i64 4) := fun o1 => by rw [← hk]; exact (one o1).1
  have a6 : ∀ o1 : Obj, (w.alloc o1).cell? ⟨b, o + 6, none⟩ = some (.slice y.a y.n y.cap) := fun o1 => (one o1).2.2.2.2.2.2
  have c0 : ∀ o1 o2 : Obj, ((w.alloc o1).alloc o2).cell? ⟨b, o, none⟩ = some (.int .i64 4) := fun o1 o2 => by rw [← hk]; exact (cells o1 o2).1
  have c6 : ∀ o1 o2 : Obj, ((w.alloc o1).alloc o2).cell? ⟨b, o + 6, none⟩ = some (.slice y.a y.n y.cap) := fun o1 o2 => (cells o1 o2).2.2.2.2.2.2
  have hB6 : Hid True := trivial
  have hn' : ((y.n : Int) == 2) = true := by simp; omega
  clear hn
  clear hN one cells hB6
  go_enter Tryz.func87, Tryz.ntmps87
  go_wp2_with fail
  go_region
  go_wp2_with fail
  go_wp2_with (go_at_call 95; refine (alone_any b o (w.heap.size + 1) 0 y (X.mk 4 val0 ⟨#[]⟩ ⟨#[]⟩ y.a y.n y.cap y.c) (two1 w b o (X.mk 4 val0 ⟨#[]⟩ ⟨#[]⟩ y.a y.n y.cap y.c)).drew (hE.out (X.mk 4 val0 ⟨#[]⟩ ⟨#[]⟩ y.a y.n y.cap y.c)).2.1 (hE.out (X.mk 4 val0 ⟨#[]⟩ ⟨#[]⟩ y.a y.n y.cap y.c)).2.2.1).mono ?_; rintro e x9 ⟨rfl, hN9⟩)
  go_ret
  have hT9 : Below (two1 w b o (X.mk 4 val0 ⟨#[]⟩ ⟨#[]⟩ y.a y.n y.cap y.c)).heap.size (two1 w b o (X.mk 4 val0 ⟨#[]⟩ ⟨#[]⟩ y.a y.n y.cap y.c)) x9 := undrawn hN9 rfl rfl rfl rfl
  exact ⟨rfl, (hE.out (X.mk 4 val0 ⟨#[]⟩ ⟨#[]⟩ y.a y.n y.cap y.c)).2.2.2.trans (hT9.mono (hE.out (X.mk 4 val0 ⟨#[]⟩ ⟨#[]⟩ y.a y.n y.cap y.c)).2.2.2.size)⟩
set_option maxRecDepth 100000 in
set_option maxHeartbeats 2000000 in
theorem right_4_f (b o : Nat) (y : X) (w : World) (hN : Node w b o y) (hk : y.k = 4) (hn : ¬ y.n = 2) :
    Calls Tryz.prog 87 #[.pointer (some ⟨b, o, none⟩)] w fun e w' => e = .returned (.bool false) ∧ Below w.heap.size w w' := by
  have hE : Hid (∀ q : X, Boxed (two1 w b o q) w.heap.size 81 (.pointer (some ⟨b, o, none⟩)) ∧ Node (two1 w b o q) b o y ∧ Node (two1 w b o q) (w.heap.size + 1) 0 q ∧ Below w.heap.size w (two1 w b o q)) := fun q => two1_facts w b o y q hN
  have one : ∀ o1 : Obj, Node (w.alloc o1) b o y := fun o1 => hN.later ((Below.refl _ w).alloc (Nat.le_refl _) _)
  have cells : ∀ o1 o2 : Obj, Node ((w.alloc o1).alloc o2) b o y := fun o1 o2 => hN.later (((Below.refl _ w).alloc (Nat.le_refl _) _).alloc (by simp) _)
  have a0 : ∀ o1 : Obj, (w.alloc o1).cell? ⟨b, o, none⟩ = some (.int .i64 4) := fun o1 => by rw [← hk]; exact (one o1).1
  have a6 : ∀ o1 : Obj, (w.alloc o1).cell? ⟨b, o + 6, none⟩ = some (.slice y.a y.n y.cap) := fun o1 => (one o1).2.2.2.2.2.2
  have c0 : ∀ o1 o2 : Obj, ((w.alloc o1).alloc o2).cell? ⟨b, o, none⟩ = some (.int .i64 4) := fun o1 o2 => by rw [← hk]; exact (cells o1 o2).1
  have c6 : ∀ o1 o2 : Obj, ((w.alloc o1).alloc o2).cell? ⟨b, o + 6, none⟩ = some (.slice y.a y.n y.cap) := fun o1 o2 => (cells o1 o2).2.2.2.2.2.2
  have hB6 : Hid True := trivial
  have hn' : ((y.n : Int) == 2) = false := by simp; omega
  clear hn
  clear hN one cells hB6
  go_enter Tryz.func87, Tryz.ntmps87
  go_wp2_with fail
  go_region
  go_wp2_with fail
  go_wp2
  go_ret
  exact ⟨rfl, (hE.out (X.mk 4 val0 ⟨#[]⟩ ⟨#[]⟩ y.a y.n y.cap y.c)).2.2.2.drew⟩
end Go.Proofs.YtinnhaojmnmliaaGreat
