/-
  expr.right at XAnd and XOr, and at what is no kind.
-/
import Derived.Test.YtahlmlbfgijcpaaGreatDoorCExprRightCF
namespace Go.Proofs.YtahlmlbfgijcpaaGreatDoor
open Go.RowKit

set_option maxRecDepth 100000 in
set_option maxHeartbeats 2000000 in
theorem right_16_few (b o : Nat) (y : X) (w : World) (hN : Node w b o y) (hk : y.k = 16) (hn : ¬ 2 ≤ y.n) :
    Calls Tryz.prog 36 #[.pointer (some ⟨b, o, none⟩)] w fun e w' => e = .returned (.bool false) ∧ Below w.heap.size w w' := by
  have hE : Hid (∀ q : X, Boxed (two1 w b o q) w.heap.size 82 (.pointer (some ⟨b, o, none⟩)) ∧ Node (two1 w b o q) b o y ∧ Node (two1 w b o q) (w.heap.size + 1) 0 q ∧ Below w.heap.size w (two1 w b o q)) := fun q => two1_facts w b o y q hN
  have one : ∀ o1 : Obj, Node (w.alloc o1) b o y := fun o1 => hN.later ((Below.refl _ w).alloc (Nat.le_refl _) _)
  have cells : ∀ o1 o2 : Obj, Node ((w.alloc o1).alloc o2) b o y := fun o1 o2 => hN.later (((Below.refl _ w).alloc (Nat.le_refl _) _).alloc (by simp) _)
  have a0 : ∀ o1 : Obj, (w.alloc o1).cell? ⟨b, o, none⟩ = some (.int .i64 16) := fun o1 => by rw [← hk]; exact (one o1).1
  have a6 : ∀ o1 : Obj, (w.alloc o1).cell? ⟨b, o + 6, none⟩ = some (.slice y.a y.n y.cap) := fun o1 => (one o1).2.2.2.2.2.2
  have c0 : ∀ o1 o2 : Obj, ((w.alloc o1).alloc o2).cell? ⟨b, o, none⟩ = some (.int .i64 16) := fun o1 o2 => by rw [← hk]; exact (cells o1 o2).1
  have c6 : ∀ o1 o2 : Obj, ((w.alloc o1).alloc o2).cell? ⟨b, o + 6, none⟩ = some (.slice y.a y.n y.cap) := fun o1 o2 => (cells o1 o2).2.2.2.2.2.2
  have hB6 : Hid True := trivial
  have hn' : ¬ (2 : Int) ≤ (y.n : Int) := by omega
  clear hn
  clear hN one cells hB6
  go_enter Tryz.func36, Tryz.ntmps36
  go_wp2_with fail
  go_region
  go_wp2_with fail
  go_wp2
  go_ret
  exact ⟨rfl, (hE.out (X.mk 16 val0 ⟨#[]⟩ ⟨#[]⟩ y.a y.n y.cap y.c)).2.2.2.drew⟩
set_option maxRecDepth 100000 in
set_option maxHeartbeats 2000000 in
theorem right_16_true (b o : Nat) (y : X) (w : World) (hN : Node w b o y) (hY : IsX w y) (hk : y.k = 16) (hn : 2 ≤ y.n) (hx : ∃ i, i < y.n ∧ (y.c i).k = y.k) :
    Calls Tryz.prog 36 #[.pointer (some ⟨b, o, none⟩)] w fun e w' => e = .returned (.bool false) ∧ Below w.heap.size w w' := by
  have hE : Hid (∀ q : X, Boxed (two1 w b o q) w.heap.size 82 (.pointer (some ⟨b, o, none⟩)) ∧ Node (two1 w b o q) b o y ∧ Node (two1 w b o q) (w.heap.size + 1) 0 q ∧ Below w.heap.size w (two1 w b o q)) := fun q => two1_facts w b o y q hN
  have one : ∀ o1 : Obj, Node (w.alloc o1) b o y := fun o1 => hN.later ((Below.refl _ w).alloc (Nat.le_refl _) _)
  have cells : ∀ o1 o2 : Obj, Node ((w.alloc o1).alloc o2) b o y := fun o1 o2 => hN.later (((Below.refl _ w).alloc (Nat.le_refl _) _).alloc (by simp) _)
  have a0 : ∀ o1 : Obj, (w.alloc o1).cell? ⟨b, o, none⟩ = some (.int .i64 16) := fun o1 => by rw [← hk]; exact (one o1).1
  have a6 : ∀ o1 : Obj, (w.alloc o1).cell? ⟨b, o + 6, none⟩ = some (.slice y.a y.n y.cap) := fun o1 => (one o1).2.2.2.2.2.2
  have c0 : ∀ o1 o2 : Obj, ((w.alloc o1).alloc o2).cell? ⟨b, o, none⟩ = some (.int .i64 16) := fun o1 o2 => by rw [← hk]; exact (cells o1 o2).1
  have c6 : ∀ o1 o2 : Obj, ((w.alloc o1).alloc o2).cell? ⟨b, o + 6, none⟩ = some (.slice y.a y.n y.cap) := fun o1 o2 => (cells o1 o2).2.2.2.2.2.2
  have hB6 : Hid True := trivial
  have hn' : (2 : Int) ≤ (y.n : Int) := by omega
  have hR : Hid (Calls Tryz.prog 52 #[.slice y.a y.n y.cap, .func (.func 53) #[] #[.pointer (some ⟨w.heap.size, 0, none⟩)]] (two1 w b o (X.mk 16 val0 ⟨#[]⟩ ⟨#[]⟩ y.a y.n y.cap y.c)).drew fun e w' => e = .returned (.bool true) ∧ Below (two1 w b o (X.mk 16 val0 ⟨#[]⟩ ⟨#[]⟩ y.a y.n y.cap y.c)).drew.heap.size (two1 w b o (X.mk 16 val0 ⟨#[]⟩ ⟨#[]⟩ y.a y.n y.cap y.c)).drew w') := by
    refine (kinds_any y w.heap.size b o y.k _ ((hY.later (hE.out (X.mk 16 val0 ⟨#[]⟩ ⟨#[]⟩ y.a y.n y.cap y.c)).2.2.2.drew)) (hE.out (X.mk 16 val0 ⟨#[]⟩ ⟨#[]⟩ y.a y.n y.cap y.c)).1.cell (hE.out (X.mk 16 val0 ⟨#[]⟩ ⟨#[]⟩ y.a y.n y.cap y.c)).2.1.1).mono ?_
    rintro e w' ⟨r, rfl, hr, hB⟩
    refine ⟨ret_bool ?_, hB⟩
    cases r with
    | true => rfl
    | false => exact absurd (hr.2 hx) (by simp)
  clear hn hx hY
  clear hN one cells hB6
  go_enter Tryz.func36, Tryz.ntmps36
  go_wp2_with fail
  go_region
  go_wp2_with fail
  go_wp2_with (first
    | (go_at_call 52; refine (hR.out).mono ?_; rintro e x1 ⟨rfl, hN1⟩; have hT1 : Below (two1 w b o (X.mk 16 val0 ⟨#[]⟩ ⟨#[]⟩ y.a y.n y.cap y.c)).heap.size (two1 w b o (X.mk 16 val0 ⟨#[]⟩ ⟨#[]⟩ y.a y.n y.cap y.c)) x1 := undrawn hN1 rfl rfl rfl rfl; clear hN1; have bx1 := (on_box (hE.out (X.mk 16 val0 ⟨#[]⟩ ⟨#[]⟩ y.a y.n y.cap y.c)).1 hT1).cell))
  go_ret
  exact ⟨rfl, (hE.out (X.mk 16 val0 ⟨#[]⟩ ⟨#[]⟩ y.a y.n y.cap y.c)).2.2.2.trans (hT1.mono (hE.out (X.mk 16 val0 ⟨#[]⟩ ⟨#[]⟩ y.a y.n y.cap y.c)).2.2.2.size)⟩
set_option maxRecDepth 100000 in
set_option maxHeartbeats 2000000 in
theorem right_16_false (b o : Nat) (y : X) (w : World) (hN : Node w b o y) (hY : IsX w y) (hk : y.k = 16) (hn : 2 ≤ y.n) (hx : ¬ ∃ i, i < y.n ∧ (y.c i).k = y.k) :
    Calls Tryz.prog 36 #[.pointer (some ⟨b, o, none⟩)] w fun e w' => e = .returned (.bool (alZ y (X.mk 16 val0 ⟨#[]⟩ ⟨#[]⟩ y.a y.n y.cap y.c) == 0)) ∧ Below w.heap.size w w' := by
  have hE : Hid (∀ q : X, Boxed (two1 w b o q) w.heap.size 82 (.pointer (some ⟨b, o, none⟩)) ∧ Node (two1 w b o q) b o y ∧ Node (two1 w b o q) (w.heap.size + 1) 0 q ∧ Below w.heap.size w (two1 w b o q)) := fun q => two1_facts w b o y q hN
  have one : ∀ o1 : Obj, Node (w.alloc o1) b o y := fun o1 => hN.later ((Below.refl _ w).alloc (Nat.le_refl _) _)
  have cells : ∀ o1 o2 : Obj, Node ((w.alloc o1).alloc o2) b o y := fun o1 o2 => hN.later (((Below.refl _ w).alloc (Nat.le_refl _) _).alloc (by simp) _)
  have a0 : ∀ o1 : Obj, (w.alloc o1).cell? ⟨b, o, none⟩ = some (.int .i64 16) := fun o1 => by rw [← hk]; exact (one o1).1
  have a6 : ∀ o1 : Obj, (w.alloc o1).cell? ⟨b, o + 6, none⟩ = some (.slice y.a y.n y.cap) := fun o1 => (one o1).2.2.2.2.2.2
  have c0 : ∀ o1 o2 : Obj, ((w.alloc o1).alloc o2).cell? ⟨b, o, none⟩ = some (.int .i64 16) := fun o1 o2 => by rw [← hk]; exact (cells o1 o2).1
  have c6 : ∀ o1 o2 : Obj, ((w.alloc o1).alloc o2).cell? ⟨b, o + 6, none⟩ = some (.slice y.a y.n y.cap) := fun o1 o2 => (cells o1 o2).2.2.2.2.2.2
  have hB6 : Hid True := trivial
  have hn' : (2 : Int) ≤ (y.n : Int) := by omega
  have hR : Hid (Calls Tryz.prog 52 #[.slice y.a y.n y.cap, .func (.func 53) #[] #[.pointer (some ⟨w.heap.size, 0, none⟩)]] (two1 w b o (X.mk 16 val0 ⟨#[]⟩ ⟨#[]⟩ y.a y.n y.cap y.c)).drew fun e w' => e = .returned (.bool false) ∧ Below (two1 w b o (X.mk 16 val0 ⟨#[]⟩ ⟨#[]⟩ y.a y.n y.cap y.c)).drew.heap.size (two1 w b o (X.mk 16 val0 ⟨#[]⟩ ⟨#[]⟩ y.a y.n y.cap y.c)).drew w') := by
    refine (kinds_any y w.heap.size b o y.k _ ((hY.later (hE.out (X.mk 16 val0 ⟨#[]⟩ ⟨#[]⟩ y.a y.n y.cap y.c)).2.2.2.drew)) (hE.out (X.mk 16 val0 ⟨#[]⟩ ⟨#[]⟩ y.a y.n y.cap y.c)).1.cell (hE.out (X.mk 16 val0 ⟨#[]⟩ ⟨#[]⟩ y.a y.n y.cap y.c)).2.1.1).mono ?_
    rintro e w' ⟨r, rfl, hr, hB⟩
    refine ⟨ret_bool ?_, hB⟩
    cases r with
    | true => exact absurd (hr.1 rfl) hx
    | false => rfl
  clear hn hx hY
  clear hN one cells hB6
  go_enter Tryz.func36, Tryz.ntmps36
  go_wp2_with fail
  go_region
  go_wp2_with fail
  go_wp2_with (first
    | (go_at_call 52; refine (hR.out).mono ?_; rintro e x1 ⟨rfl, hN1⟩; have hT1 : Below (two1 w b o (X.mk 16 val0 ⟨#[]⟩ ⟨#[]⟩ y.a y.n y.cap y.c)).heap.size (two1 w b o (X.mk 16 val0 ⟨#[]⟩ ⟨#[]⟩ y.a y.n y.cap y.c)) x1 := undrawn hN1 rfl rfl rfl rfl; clear hN1; have bx1 := (on_box (hE.out (X.mk 16 val0 ⟨#[]⟩ ⟨#[]⟩ y.a y.n y.cap y.c)).1 hT1).cell)
    | (go_at_call 54; refine (alone_any b o (w.heap.size + 1) 0 y (X.mk 16 val0 ⟨#[]⟩ ⟨#[]⟩ y.a y.n y.cap y.c) _ ((hE.out (X.mk 16 val0 ⟨#[]⟩ ⟨#[]⟩ y.a y.n y.cap y.c)).2.1.later hT1) ((hE.out (X.mk 16 val0 ⟨#[]⟩ ⟨#[]⟩ y.a y.n y.cap y.c)).2.2.1.later hT1)).mono ?_; rintro e x9 ⟨rfl, hN9⟩))
  go_ret
  exact ⟨rfl, (hE.out (X.mk 16 val0 ⟨#[]⟩ ⟨#[]⟩ y.a y.n y.cap y.c)).2.2.2.trans ((hT1.trans (hN9.mono hT1.size)).mono (hE.out (X.mk 16 val0 ⟨#[]⟩ ⟨#[]⟩ y.a y.n y.cap y.c)).2.2.2.size)⟩
set_option maxRecDepth 100000 in
set_option maxHeartbeats 2000000 in
theorem right_17_few (b o : Nat) (y : X) (w : World) (hN : Node w b o y) (hk : y.k = 17) (hn : ¬ 2 ≤ y.n) :
    Calls Tryz.prog 36 #[.pointer (some ⟨b, o, none⟩)] w fun e w' => e = .returned (.bool false) ∧ Below w.heap.size w w' := by
  have hE : Hid (∀ q : X, Boxed (two1 w b o q) w.heap.size 82 (.pointer (some ⟨b, o, none⟩)) ∧ Node (two1 w b o q) b o y ∧ Node (two1 w b o q) (w.heap.size + 1) 0 q ∧ Below w.heap.size w (two1 w b o q)) := fun q => two1_facts w b o y q hN
  have one : ∀ o1 : Obj, Node (w.alloc o1) b o y := fun o1 => hN.later ((Below.refl _ w).alloc (Nat.le_refl _) _)
  have cells : ∀ o1 o2 : Obj, Node ((w.alloc o1).alloc o2) b o y := fun o1 o2 => hN.later (((Below.refl _ w).alloc (Nat.le_refl _) _).alloc (by simp) _)
  have a0 : ∀ o1 : Obj, (w.alloc o1).cell? ⟨b, o, none⟩ = some (.int .i64 17) := fun o1 => by rw [← hk]; exact (one o1).1
  have a6 : ∀ o1 : Obj, (w.alloc o1).cell? ⟨b, o + 6, none⟩ = some (.slice y.a y.n y.cap) := fun o1 => (one o1).2.2.2.2.2.2
  have c0 : ∀ o1 o2 : Obj, ((w.alloc o1).alloc o2).cell? ⟨b, o, none⟩ = some (.int .i64 17) := fun o1 o2 => by rw [← hk]; exact (cells o1 o2).1
  have c6 : ∀ o1 o2 : Obj, ((w.alloc o1).alloc o2).cell? ⟨b, o + 6, none⟩ = some (.slice y.a y.n y.cap) := fun o1 o2 => (cells o1 o2).2.2.2.2.2.2
  have hB6 : Hid True := trivial
  have hn' : ¬ (2 : Int) ≤ (y.n : Int) := by omega
  clear hn
  clear hN one cells hB6
  go_enter Tryz.func36, Tryz.ntmps36
  go_wp2_with fail
  go_region
  go_wp2_with fail
  go_wp2
  go_ret
  exact ⟨rfl, (hE.out (X.mk 17 val0 ⟨#[]⟩ ⟨#[]⟩ y.a y.n y.cap y.c)).2.2.2.drew⟩
set_option maxRecDepth 100000 in
set_option maxHeartbeats 2000000 in
theorem right_17_true (b o : Nat) (y : X) (w : World) (hN : Node w b o y) (hY : IsX w y) (hk : y.k = 17) (hn : 2 ≤ y.n) (hx : ∃ i, i < y.n ∧ (y.c i).k = y.k) :
    Calls Tryz.prog 36 #[.pointer (some ⟨b, o, none⟩)] w fun e w' => e = .returned (.bool false) ∧ Below w.heap.size w w' := by
  have hE : Hid (∀ q : X, Boxed (two1 w b o q) w.heap.size 82 (.pointer (some ⟨b, o, none⟩)) ∧ Node (two1 w b o q) b o y ∧ Node (two1 w b o q) (w.heap.size + 1) 0 q ∧ Below w.heap.size w (two1 w b o q)) := fun q => two1_facts w b o y q hN
  have one : ∀ o1 : Obj, Node (w.alloc o1) b o y := fun o1 => hN.later ((Below.refl _ w).alloc (Nat.le_refl _) _)
  have cells : ∀ o1 o2 : Obj, Node ((w.alloc o1).alloc o2) b o y := fun o1 o2 => hN.later (((Below.refl _ w).alloc (Nat.le_refl _) _).alloc (by simp) _)
  have a0 : ∀ o1 : Obj, (w.alloc o1).cell? ⟨b, o, none⟩ = some (.int .i64 17) := fun o1 => by rw [← hk]; exact (one o1).1
  have a6 : ∀ o1 : Obj, (w.alloc o1).cell? ⟨b, o + 6, none⟩ = some (.slice y.a y.n y.cap) := fun o1 => (one o1).2.2.2.2.2.2
  have c0 : ∀ o1 o2 : Obj, ((w.alloc o1).alloc o2).cell? ⟨b, o, none⟩ = some (.int .i64 17) := fun o1 o2 => by rw [← hk]; exact (cells o1 o2).1
  have c6 : ∀ o1 o2 : Obj, ((w.alloc o1).alloc o2).cell? ⟨b, o + 6, none⟩ = some (.slice y.a y.n y.cap) := fun o1 o2 => (cells o1 o2).2.2.2.2.2.2
  have hB6 : Hid True := trivial
  have hn' : (2 : Int) ≤ (y.n : Int) := by omega
  have hR : Hid (Calls Tryz.prog 52 #[.slice y.a y.n y.cap, .func (.func 53) #[] #[.pointer (some ⟨w.heap.size, 0, none⟩)]] (two1 w b o (X.mk 17 val0 ⟨#[]⟩ ⟨#[]⟩ y.a y.n y.cap y.c)).drew fun e w' => e = .returned (.bool true) ∧ Below (two1 w b o (X.mk 17 val0 ⟨#[]⟩ ⟨#[]⟩ y.a y.n y.cap y.c)).drew.heap.size (two1 w b o (X.mk 17 val0 ⟨#[]⟩ ⟨#[]⟩ y.a y.n y.cap y.c)).drew w') := by
    refine (kinds_any y w.heap.size b o y.k _ ((hY.later (hE.out (X.mk 17 val0 ⟨#[]⟩ ⟨#[]⟩ y.a y.n y.cap y.c)).2.2.2.drew)) (hE.out (X.mk 17 val0 ⟨#[]⟩ ⟨#[]⟩ y.a y.n y.cap y.c)).1.cell (hE.out (X.mk 17 val0 ⟨#[]⟩ ⟨#[]⟩ y.a y.n y.cap y.c)).2.1.1).mono ?_
    rintro e w' ⟨r, rfl, hr, hB⟩
    refine ⟨ret_bool ?_, hB⟩
    cases r with
    | true => rfl
    | false => exact absurd (hr.2 hx) (by simp)
  clear hn hx hY
  clear hN one cells hB6
  go_enter Tryz.func36, Tryz.ntmps36
  go_wp2_with fail
  go_region
  go_wp2_with fail
  go_wp2_with (first
    | (go_at_call 52; refine (hR.out).mono ?_; rintro e x1 ⟨rfl, hN1⟩; have hT1 : Below (two1 w b o (X.mk 17 val0 ⟨#[]⟩ ⟨#[]⟩ y.a y.n y.cap y.c)).heap.size (two1 w b o (X.mk 17 val0 ⟨#[]⟩ ⟨#[]⟩ y.a y.n y.cap y.c)) x1 := undrawn hN1 rfl rfl rfl rfl; clear hN1; have bx1 := (on_box (hE.out (X.mk 17 val0 ⟨#[]⟩ ⟨#[]⟩ y.a y.n y.cap y.c)).1 hT1).cell))
  go_ret
  exact ⟨rfl, (hE.out (X.mk 17 val0 ⟨#[]⟩ ⟨#[]⟩ y.a y.n y.cap y.c)).2.2.2.trans (hT1.mono (hE.out (X.mk 17 val0 ⟨#[]⟩ ⟨#[]⟩ y.a y.n y.cap y.c)).2.2.2.size)⟩
set_option maxRecDepth 100000 in
set_option maxHeartbeats 2000000 in
theorem right_17_false (b o : Nat) (y : X) (w : World) (hN : Node w b o y) (hY : IsX w y) (hk : y.k = 17) (hn : 2 ≤ y.n) (hx : ¬ ∃ i, i < y.n ∧ (y.c i).k = y.k) :
    Calls Tryz.prog 36 #[.pointer (some ⟨b, o, none⟩)] w fun e w' => e = .returned (.bool (alZ y (X.mk 17 val0 ⟨#[]⟩ ⟨#[]⟩ y.a y.n y.cap y.c) == 0)) ∧ Below w.heap.size w w' := by
  have hE : Hid (∀ q : X, Boxed (two1 w b o q) w.heap.size 82 (.pointer (some ⟨b, o, none⟩)) ∧ Node (two1 w b o q) b o y ∧ Node (two1 w b o q) (w.heap.size + 1) 0 q ∧ Below w.heap.size w (two1 w b o q)) := fun q => two1_facts w b o y q hN
  have one : ∀ o1 : Obj, Node (w.alloc o1) b o y := fun o1 => hN.later ((Below.refl _ w).alloc (Nat.le_refl _) _)
  have cells : ∀ o1 o2 : Obj, Node ((w.alloc o1).alloc o2) b o y := fun o1 o2 => hN.later (((Below.refl _ w).alloc (Nat.le_refl _) _).alloc (by simp) _)
  have a0 : ∀ o1 : Obj, (w.alloc o1).cell? ⟨b, o, none⟩ = some (.int .i64 17) := fun o1 => by rw [← hk]; exact (one o1).1
  have a6 : ∀ o1 : Obj, (w.alloc o1).cell? ⟨b, o + 6, none⟩ = some (.slice y.a y.n y.cap) := fun o1 => (one o1).2.2.2.2.2.2
  have c0 : ∀ o1 o2 : Obj, ((w.alloc o1).alloc o2).cell? ⟨b, o, none⟩ = some (.int .i64 17) := fun o1 o2 => by rw [← hk]; exact (cells o1 o2).1
  have c6 : ∀ o1 o2 : Obj, ((w.alloc o1).alloc o2).cell? ⟨b, o + 6, none⟩ = some (.slice y.a y.n y.cap) := fun o1 o2 => (cells o1 o2).2.2.2.2.2.2
  have hB6 : Hid True := trivial
  have hn' : (2 : Int) ≤ (y.n : Int) := by omega
  have hR : Hid (Calls Tryz.prog 52 #[.slice y.a y.n y.cap, .func (.func 53) #[] #[.pointer (some ⟨w.heap.size, 0, none⟩)]] (two1 w b o (X.mk 17 val0 ⟨#[]⟩ ⟨#[]⟩ y.a y.n y.cap y.c)).drew fun e w' => e = .returned (.bool false) ∧ Below (two1 w b o (X.mk 17 val0 ⟨#[]⟩ ⟨#[]⟩ y.a y.n y.cap y.c)).drew.heap.size (two1 w b o (X.mk 17 val0 ⟨#[]⟩ ⟨#[]⟩ y.a y.n y.cap y.c)).drew w') := by
    refine (kinds_any y w.heap.size b o y.k _ ((hY.later (hE.out (X.mk 17 val0 ⟨#[]⟩ ⟨#[]⟩ y.a y.n y.cap y.c)).2.2.2.drew)) (hE.out (X.mk 17 val0 ⟨#[]⟩ ⟨#[]⟩ y.a y.n y.cap y.c)).1.cell (hE.out (X.mk 17 val0 ⟨#[]⟩ ⟨#[]⟩ y.a y.n y.cap y.c)).2.1.1).mono ?_
    rintro e w' ⟨r, rfl, hr, hB⟩
    refine ⟨ret_bool ?_, hB⟩
    cases r with
    | true => exact absurd (hr.1 rfl) hx
    | false => rfl
  clear hn hx hY
  clear hN one cells hB6
  go_enter Tryz.func36, Tryz.ntmps36
  go_wp2_with fail
  go_region
  go_wp2_with fail
  go_wp2_with (first
    | (go_at_call 52; refine (hR.out).mono ?_; rintro e x1 ⟨rfl, hN1⟩; have hT1 : Below (two1 w b o (X.mk 17 val0 ⟨#[]⟩ ⟨#[]⟩ y.a y.n y.cap y.c)).heap.size (two1 w b o (X.mk 17 val0 ⟨#[]⟩ ⟨#[]⟩ y.a y.n y.cap y.c)) x1 := undrawn hN1 rfl rfl rfl rfl; clear hN1; have bx1 := (on_box (hE.out (X.mk 17 val0 ⟨#[]⟩ ⟨#[]⟩ y.a y.n y.cap y.c)).1 hT1).cell)
    | (go_at_call 54; refine (alone_any b o (w.heap.size + 1) 0 y (X.mk 17 val0 ⟨#[]⟩ ⟨#[]⟩ y.a y.n y.cap y.c) _ ((hE.out (X.mk 17 val0 ⟨#[]⟩ ⟨#[]⟩ y.a y.n y.cap y.c)).2.1.later hT1) ((hE.out (X.mk 17 val0 ⟨#[]⟩ ⟨#[]⟩ y.a y.n y.cap y.c)).2.2.1.later hT1)).mono ?_; rintro e x9 ⟨rfl, hN9⟩))
  go_ret
  exact ⟨rfl, (hE.out (X.mk 17 val0 ⟨#[]⟩ ⟨#[]⟩ y.a y.n y.cap y.c)).2.2.2.trans ((hT1.trans (hN9.mono hT1.size)).mono (hE.out (X.mk 17 val0 ⟨#[]⟩ ⟨#[]⟩ y.a y.n y.cap y.c)).2.2.2.size)⟩
set_option maxRecDepth 100000 in
set_option maxHeartbeats 2000000 in
theorem right_kind (b o : Nat) (y : X) (w : World) (hN : Node w b o y) (hk : ¬ (1 ≤ y.k ∧ y.k ≤ 17)) :
    Calls Tryz.prog 36 #[.pointer (some ⟨b, o, none⟩)] w fun e w' => e = .returned (.bool false) ∧ Below w.heap.size w w' := by
  have hE : Hid (∀ q : X, Boxed (two1 w b o q) w.heap.size 82 (.pointer (some ⟨b, o, none⟩)) ∧ Node (two1 w b o q) b o y ∧ Node (two1 w b o q) (w.heap.size + 1) 0 q ∧ Below w.heap.size w (two1 w b o q)) := fun q => two1_facts w b o y q hN
  have one : ∀ o1 : Obj, Node (w.alloc o1) b o y := fun o1 => hN.later ((Below.refl _ w).alloc (Nat.le_refl _) _)
  have cells : ∀ o1 o2 : Obj, Node ((w.alloc o1).alloc o2) b o y := fun o1 o2 => hN.later (((Below.refl _ w).alloc (Nat.le_refl _) _).alloc (by simp) _)
  have a0 : ∀ o1 : Obj, (w.alloc o1).cell? ⟨b, o, none⟩ = some (.int .i64 y.k) := fun o1 => (one o1).1
  have a6 : ∀ o1 : Obj, (w.alloc o1).cell? ⟨b, o + 6, none⟩ = some (.slice y.a y.n y.cap) := fun o1 => (one o1).2.2.2.2.2.2
  have c0 : ∀ o1 o2 : Obj, ((w.alloc o1).alloc o2).cell? ⟨b, o, none⟩ = some (.int .i64 y.k) := fun o1 o2 => (cells o1 o2).1
  have c6 : ∀ o1 o2 : Obj, ((w.alloc o1).alloc o2).cell? ⟨b, o + 6, none⟩ = some (.slice y.a y.n y.cap) := fun o1 o2 => (cells o1 o2).2.2.2.2.2.2
  have hB6 : Hid True := trivial
  have e1 : (y.k == 1) = false := by simp; omega
  have e2 : (y.k == 2) = false := by simp; omega
  have e3 : (y.k == 3) = false := by simp; omega
  have e4 : (y.k == 4) = false := by simp; omega
  have e5 : (y.k == 5) = false := by simp; omega
  have e6 : (y.k == 6) = false := by simp; omega
  have e7 : (y.k == 7) = false := by simp; omega
  have e8 : (y.k == 8) = false := by simp; omega
  have e9 : (y.k == 9) = false := by simp; omega
  have e10 : (y.k == 10) = false := by simp; omega
  have e11 : (y.k == 11) = false := by simp; omega
  have e12 : (y.k == 12) = false := by simp; omega
  have e13 : (y.k == 13) = false := by simp; omega
  have e14 : (y.k == 14) = false := by simp; omega
  have e15 : (y.k == 15) = false := by simp; omega
  have e16 : (y.k == 16) = false := by simp; omega
  have e17 : (y.k == 17) = false := by simp; omega
  clear hk
  clear hN one cells hB6
  go_enter Tryz.func36, Tryz.ntmps36
  go_wp2_with fail
  go_region
  go_wp2_with fail
  go_wp2
  go_ret
  exact ⟨rfl, (hE.out (X.mk y.k val0 ⟨#[]⟩ ⟨#[]⟩ y.a y.n y.cap y.c)).2.2.2.drew⟩
end Go.Proofs.YtahlmlbfgijcpaaGreatDoor
