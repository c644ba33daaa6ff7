/-
  TypingZero: names that are nil, and such as no call made.
-/
import Derived.Test.YtahlmlbfgijcpaaDoorExprBase
import Derived.Test.YtahlmlbfgijcpaaDoorHeld
import Derived.Test.YtahlmlbfgijcpaaDoorTypErrno
import Derived.BigQuiet
namespace Go.Proofs.YtahlmlbfgijcpaaDoor
open Go.RowKit

theorem node_zero {w : World} {b : Nat} {x : X} (h : Node w b 0 x) : w.cell? ⟨b, 0, none⟩ = some (.int .i64 x.k) ∧ w.cell? ⟨b, 1, none⟩ = some (.int .i64 x.v.k) ∧ w.cell? ⟨b, 2, none⟩ = some (.int .i64 x.v.n) ∧ w.cell? ⟨b, 3, none⟩ = some (.string x.v.s) ∧
    w.cell? ⟨b, 4, none⟩ = some (.string x.s) ∧ w.cell? ⟨b, 5, none⟩ = some (.string x.f) ∧ w.cell? ⟨b, 6, none⟩ = some (.slice x.a x.n x.cap) := by
  simpa only [Node, Nat.zero_add] using h
/-- Names that nobody made: nil, or with no map. -/
def Nobody (w : World) (nv : Value) : Prop := nv = .pointer none ∨ ∃ p, nv = .pointer (some ⟨p, 0, none⟩) ∧ w.cell? ⟨p, 0, none⟩ = some (.map none)
theorem Nobody.later {w w' : World} {nv : Value} (h : Nobody w nv) (hB : Below w.heap.size w w') : Nobody w' nv := by
  rcases h with rfl | ⟨p, rfl, h⟩
  · exact .inl rfl
  · exact .inr ⟨p, rfl, cell_later h hB⟩
set_option maxRecDepth 100000 in
set_option maxHeartbeats 1000000 in
theorem made_zero (nv : Value) (w : World) (h : Nobody w nv) : Calls Tryd.prog 7 #[nv] w fun e w' => e = .returned (.bool false) ∧ Below w.heap.size w w' := by
  rcases h with rfl | ⟨p, rfl, hc⟩
  · go_enter Tryd.func7, Tryd.ntmps7
    go_wp2
    go_ret
    exact ⟨rfl, Below.refl _ _⟩
  · have hq : ∀ w, (binOp .neq 28 (.map none) (.map none)).run Tryd.prog w = .ok (.bool false) w := fun _ => rfl
    go_enter Tryd.func7, Tryd.ntmps7
    go_wp2
    go_ret
    exact ⟨rfl, Below.refl _ _⟩
set_option maxRecDepth 100000 in
set_option maxHeartbeats 1000000 in
theorem kind_zero (nv : Value) (x : X) (w : World) (h : Nobody w nv) : Calls Tryd.prog 4 #[nv, x.val] w fun e w' => e = .returned (.tuple #[.int .i64 0, .int .i64 7]) ∧ Below w.heap.size w w' := by
  have hB : Below w.heap.size w (w.alloc (.cells #[.int .i64 x.k, .int .i64 x.v.k, .int .i64 x.v.n, .string x.v.s, .string x.s, .string x.f, .slice x.a x.n x.cap] 26)) := (Below.refl _ _).alloc (Nat.le_refl _) _
  have C : Hid (Calls Tryd.prog 7 _ _ _) := made_zero nv _ (h.later hB)
  have HB : Hid (Below w.heap.size w _) := hB
  clear h hB
  go_enter Tryd.func4, Tryd.ntmps4
  go_wp2_with (first | (go_at_call 7; refine C.out.mono ?_; rintro e w2 ⟨rfl, hB2⟩))
  exact bodyPost_ret (v := .tuple #[.int .i64 0, .int .i64 7]) (by simp [results, Tryd.results4, go_sem]) rfl ⟨rfl, HB.out.trans (hB2.mono HB.out.size)⟩
set_option maxRecDepth 100000 in
set_option maxHeartbeats 1000000 in
theorem cond_zero (nv : Value) (x : X) (w : World) (h : Nobody w nv) : Calls Tryd.prog 6 #[nv, x.val] w fun e w' => e = .returned (.int .i64 7) ∧ Below w.heap.size w w' := by
  have hB : Below w.heap.size w (w.alloc (.cells #[.int .i64 x.k, .int .i64 x.v.k, .int .i64 x.v.n, .string x.v.s, .string x.s, .string x.f, .slice x.a x.n x.cap] 26)) := (Below.refl _ _).alloc (Nat.le_refl _) _
  have C : Hid (Calls Tryd.prog 4 _ _ _) := kind_zero nv x _ (h.later hB)
  have HB : Hid (Below w.heap.size w _) := hB
  clear h hB
  go_enter Tryd.func6, Tryd.ntmps6
  go_wp2_with (first | (go_at_call 4; refine C.out.mono ?_; rintro e w2 ⟨rfl, hB2⟩))
  go_ret
  exact ⟨rfl, HB.out.trans (hB2.mono HB.out.size)⟩
set_option maxRecDepth 100000 in
set_option maxHeartbeats 1000000 in
theorem type_zero (nv : Value) (s : ByteArray) (w : World) (h : Nobody w nv) : Calls Tryd.prog 5 #[nv, .string s] w fun e w' => e = .returned (.tuple #[.string ⟨#[]⟩, .bool false]) ∧ Below w.heap.size w w' := by
  have C : Hid (Calls Tryd.prog 7 _ w _) := made_zero nv w h
  clear h
  go_enter Tryd.func5, Tryd.ntmps5
  go_wp2_with (first | (go_at_call 7; refine C.out.mono ?_; rintro e w2 ⟨rfl, hB2⟩))
  exact bodyPost_ret (v := .tuple #[.string ⟨#[]⟩, .bool false]) (by simp [results, Tryd.results5, go_sem]) rfl ⟨rfl, hB2⟩
set_option maxRecDepth 100000 in
set_option maxHeartbeats 4000000 in
theorem zero_walk (x : X) (s : ByteArray) (w : World) : Calls Tryd.prog 3 #[x.val, .string s] w fun e w' => e = .returned (.bool true) ∧ Below w.heap.size w w' := by
  obtain ⟨A, hA⟩ : ∃ A, (w.alloc (.cells #[.int .i64 x.k, .int .i64 x.v.k, .int .i64 x.v.n, .string x.v.s, .string x.s, .string x.f, .slice x.a x.n x.cap] 26)).alloc (.cells #[.map none] 30) = A := ⟨_, rfl⟩
  have hB : Below w.heap.size w A := by rw [← hA]; exact ((Below.refl _ _).alloc (Nat.le_refl _) _).alloc (by simp) _
  have hNode : Node A w.heap.size 0 x := by
    have h1 : Node (w.alloc (.cells #[.int .i64 x.k, .int .i64 x.v.k, .int .i64 x.v.n, .string x.v.s, .string x.s, .string x.f, .slice x.a x.n x.cap] 26)) w.heap.size 0 x := by
      refine ⟨?_, ?_, ?_, ?_, ?_, ?_, ?_⟩ <;> rw [World.cell?_alloc_at _ _ _ _ rfl] <;> rfl
    rw [← hA]
    exact h1.later ((Below.refl _ _).alloc (Nat.le_refl _) _)
  have hm : A.cell? ⟨w.heap.size + 1, 0, none⟩ = some (.map none) := by rw [← hA, World.cell?_alloc_at _ _ _ _ (by simp)]; rfl
  have n1 : Hid (Nobody A (.pointer none)) := .inl rfl
  have n2 : Hid (Nobody A (.pointer (some ⟨w.heap.size + 1, 0, none⟩))) := .inr ⟨_, rfl, hm⟩
  have HN : Hid (Node A w.heap.size 0 x) := hNode
  have HB : Hid (Below w.heap.size w A) := hB
  obtain ⟨a0, a1, a2, a3, a4, a5, a6⟩ := node_zero hNode
  clear hB hNode hm
  go_enter Tryd.func3, Tryd.ntmps3
  go_wp2_with (first
    | (go_at_call 5; refine (type_zero _ s _ (n1.out.later hB3)).mono ?_; rintro e w4 ⟨rfl, hB4'⟩; have hB4 : Below A.heap.size A w4 := hB3.trans (hB4'.mono hB3.size); obtain ⟨d0, d1, d2, d3, d4, d5, d6⟩ := node_zero (HN.out.later hB4))
    | (go_at_call 6; refine (cond_zero _ x _ (n2.out.later hB5)).mono ?_; rintro e w6 ⟨rfl, hB6⟩)
    | (go_at_call 6; refine (cond_zero _ x _ (n1.out.later hB4)).mono ?_; rintro e w5 ⟨rfl, hB5'⟩; have hB5 : Below A.heap.size A w5 := hB4.trans (hB5'.mono hB4.size); obtain ⟨d0, d1, d2, d3, d4, d5, d6⟩ := node_zero (HN.out.later hB5))
    | (go_at_call 4; refine (kind_zero _ x _ (n2.out.later hB2)).mono ?_; rintro e w3 ⟨rfl, hB3'⟩; have hB3 : Below A.heap.size A w3 := hB2.trans (hB3'.mono hB2.size))
    | (go_at_call 4; refine (kind_zero _ x _ n1.out).mono ?_; rintro e w2 ⟨rfl, hB2⟩; obtain ⟨d0, d1, d2, d3, d4, d5, d6⟩ := node_zero (HN.out.later hB2)))
  go_ret
  exact ⟨rfl, HB.out.trans ((hB5.trans (hB6.mono hB5.size)).mono HB.out.size)⟩
end Go.Proofs.YtahlmlbfgijcpaaDoor
