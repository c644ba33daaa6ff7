/-
  The law's own 'book' and 'awake' (haruspexlaw10).
-/
import Derived.Test.YtahlmlbfgijcpaaGreatDoorCTypCalls
import Derived.Test.YtahlmlbfgijcpaaGreatDoorCTypNewAll
namespace Go.Proofs.YtahlmlbfgijcpaaGreatDoor
open Go.RowKit

abbrev sBuy : ByteArray := ⟨#[98, 117, 121]⟩
abbrev sA : ByteArray := ⟨#[97]⟩
abbrev sX : ByteArray := ⟨#[120]⟩
abbrev lawFlds : Obj := .cells #[.string sX, .int .i64 2, .string ⟨#[107]⟩, .int .i64 3, .string ⟨#[98]⟩, .int .i64 1] 74
abbrev lawSch (p : Nat) : Obj := .cells #[.string sBuy, .slice (some ⟨p, 0, none⟩) 3 3] 58
def lawFn : Nat → ByteArray
  | 0 => sX
  | 1 => ⟨#[107]⟩
  | _ => ⟨#[98]⟩
def lawFk : Nat → Int
  | 0 => 2
  | 1 => 3
  | _ => 1
def lawQ (p : Nat) : Nat → Sch := fun _ => ⟨sBuy, some ⟨p, 0, none⟩, 3, 3, lawFn, lawFk⟩
theorem lawBook_ok (p : Nat) : bookZ 1 (lawQ p) = 0 := by kernel_rfl
theorem lawLack (p : Nat) : lackB (fun _ => sBuy) 1 (lawQ p) 1 = false := by
  simp only [lackB]
  rw [idx_at (fun i => (lawQ p i).nm) sBuy 1 0 (by omega) rfl (fun j hj => by omega)]
  rfl
theorem lawNew (p : Nat) : newZ 1 1 (fun _ => sBuy) 1 (lawQ p) = 0 := by
  rw [newZ, if_pos ⟨lawBook_ok p, rfl⟩, lawLack]
  rfl
set_option maxRecDepth 100000 in
set_option maxHeartbeats 2000000 in
theorem lawBook (w : World) : Calls Tryz.prog 19 #[] w fun e w' => e = .returned (.slice (some ⟨w.heap.size + 1, 0, none⟩) 1 1) ∧ w' = (w.alloc lawFlds).alloc (lawSch w.heap.size) := by
  go_enter Tryz.func19, Tryz.ntmps19
  go_wp2
  go_ret
  exact ⟨rfl, rfl⟩
theorem lawSchs (w : World) : Schs ((w.alloc lawFlds).alloc (lawSch w.heap.size)) (some ⟨w.heap.size + 1, 0, none⟩) 1 (lawQ w.heap.size) := by
  have hz : (w.alloc lawFlds).heap.size = w.heap.size + 1 := by simp
  have hB : Below (w.alloc lawFlds).heap.size (w.alloc lawFlds) ((w.alloc lawFlds).alloc (lawSch w.heap.size)) := (Below.refl _ _).alloc (Nat.le_refl _) _
  have hF : Flds (w.alloc lawFlds) (some ⟨w.heap.size, 0, none⟩) 3 lawFn lawFk := fun _ => by
    refine ⟨w.heap.size, 0, rfl, fun j hj => ?_⟩
    match j, hj with
    | 0, _ => exact ⟨⟨by rw [World.cell?_alloc_at _ _ _ _ rfl]; rfl, by rw [World.cell?_alloc_at _ _ _ _ rfl]; rfl⟩, by decide⟩
    | 1, _ => exact ⟨⟨by rw [World.cell?_alloc_at _ _ _ _ rfl]; rfl, by rw [World.cell?_alloc_at _ _ _ _ rfl]; rfl⟩, by decide⟩
    | 2, _ => exact ⟨⟨by rw [World.cell?_alloc_at _ _ _ _ rfl]; rfl, by rw [World.cell?_alloc_at _ _ _ _ rfl]; rfl⟩, by decide⟩
  refine ⟨fun _ => ⟨w.heap.size + 1, 0, rfl, fun j hj => ?_⟩, fun j hj => ⟨hF.later hB, by show (3 : Nat) ≤ _; omega⟩⟩
  obtain rfl : j = 0 := by omega
  rw [← hz]
  refine ⟨⟨?_, ?_⟩, by show sBuy.size ≤ maxLen; decide⟩ <;> rw [World.cell?_alloc_at _ _ _ _ rfl] <;> rfl
/-- a.x -/
def lawX : X := .mk 2 val0 sA sX none 0 0 (fun _ => .nil)
theorem lawX_tree : TreeR lawX := ⟨⟨fun _ => rfl, fun h => absurd rfl h, .inr (.inl ⟨rfl, rfl, by kernel_rfl, by kernel_rfl⟩)⟩, fun i hi => absurd hi (Nat.not_lt_zero _)⟩
theorem lawX_kind {S : Nat → Sch} {p : Nat} (h : SameS (lawQ p 0) (S 0)) {K E : Int} (hk : KindIs (lookS 1 (fun _ => sA) S) lawX K E) : K = 2 ∧ E = 0 := by
  have e : lookS 1 (fun _ => sA) S sA sX = some 2 := by
    unfold lookS
    rw [idx_at (fun _ => sA) sA 1 0 (by omega) rfl (fun j hj => by omega)]
    obtain ⟨_, h2, h3, h4⟩ := h
    simp only [h2, h3, h4]
    show (match idx lawFn sX 3 with | none => none | some k => some (lawFk k)) = some 2
    rw [idx_at lawFn sX 3 0 (by omega) rfl (fun j hj => by omega)]
    rfl
  have hz : lawX.size ≤ 100 := by simp [lawX, X.size, sumN]
  rcases hk with ⟨_, _, h1, h2⟩ | ⟨h1, _⟩
  · rw [kindE_field rfl rfl] at h1 h2
    have e' : lookS 1 (fun _ => sA) S lawX.s lawX.f = some 2 := e
    rw [e'] at h1 h2
    exact ⟨h1, h2⟩
  · exact absurd ⟨hz, lawX_tree⟩ h1
theorem one_txs (w : World) (s : ByteArray) : Txs (w.alloc (.cells #[.string s] 9)) (some ⟨w.heap.size, 0, none⟩) 1 (fun _ => s) := fun _ => by
  refine ⟨w.heap.size, 0, rfl, fun j hj => ?_⟩
  obtain rfl : j = 0 := by omega
  rw [World.cell?_alloc_at _ _ _ _ rfl]
  rfl
set_option maxRecDepth 100000 in
set_option maxHeartbeats 2000000 in
/-- The law's own 'awake' answers true. -/
theorem awake10_any (N T : Addr) (w : World) (hS : Sens w N T) : Calls Tryz.prog 6 #[] w fun e w' => e = .returned (.bool true) ∧ Below w.heap.size w w' := by
  obtain ⟨W, hW⟩ : ∃ W, (w.alloc lawFlds).alloc (lawSch w.heap.size) = W := ⟨_, rfl⟩
  have hz : W.heap.size = w.heap.size + 1 + 1 := by rw [← hW]; simp
  have hB : Below w.heap.size w W := by rw [← hW]; exact ((Below.refl _ _).alloc (Nat.le_refl _) _).alloc (by simp) _
  obtain ⟨W2, hW2⟩ : ∃ W2, (W.alloc (.cells #[.string sA] 9)).alloc (.cells #[.string sBuy] 9) = W2 := ⟨_, rfl⟩
  have hB1 : Below W.heap.size W (W.alloc (.cells #[.string sA] 9)) := (Below.refl _ _).alloc (Nat.le_refl _) _
  have hB2 : Below W.heap.size W W2 := by rw [← hW2]; exact hB1.alloc hB1.size _
  have hSc : Schs W2 (some ⟨w.heap.size + 1, 0, none⟩) 1 (lawQ w.heap.size) := by have := lawSchs w; rw [hW] at this; exact this.later hB2
  have hV : Txs W2 (some ⟨w.heap.size + 1 + 1, 0, none⟩) 1 (fun _ => sA) := by
    rw [← hz, ← hW2]
    exact (one_txs W sA).later ((Below.refl _ _).alloc (Nat.le_refl _) _)
  have hT : Txs W2 (some ⟨w.heap.size + 1 + 1 + 1, 0, none⟩) 1 (fun _ => sBuy) := by
    have := one_txs (W.alloc (.cells #[.string sA] 9)) sBuy
    rw [hW2, World.size_alloc, hz] at this
    exact this
  have CN : Hid (Calls Tryz.prog 4 #[.slice (some ⟨w.heap.size + 1, 0, none⟩) 1 1, .slice (some ⟨w.heap.size + 1 + 1, 0, none⟩) 1 1, .slice (some ⟨w.heap.size + 1 + 1 + 1, 0, none⟩) 1 1] W2 fun e w' => ∃ p m S, e = .returned (.tuple #[.pointer (some ⟨p, 0, none⟩), .int .i64 0]) ∧ NamesIn w' p m 1 (fun _ => sA) S ∧ SameS (lawQ w.heap.size 0) (S 0) ∧ Below W2.heap.size W2 w') := by
    refine (new_any (some ⟨w.heap.size + 1, 0, none⟩) 1 1 (lawQ w.heap.size) (some ⟨w.heap.size + 1 + 1, 0, none⟩) 1 1 (fun _ => sA) (some ⟨w.heap.size + 1 + 1 + 1, 0, none⟩) 1 1 (fun _ => sBuy) W2 hSc hV hT (by omega) (fun _ _ => by decide)).mono ?_
    rintro e w' (⟨_, _, p, m, S, h1, h2, h3, h4⟩ | ⟨h, _⟩)
    · obtain ⟨i, hi, h5⟩ := h3 0 (by omega)
      have := (idx_some _ _ _ _ hi).1
      obtain rfl : i = 0 := by omega
      exact ⟨p, m, S, h1, h2, h5, h4⟩
    · exact absurd (lawNew _) h
  have CK : Hid (∀ (p m : Nat) (S : Nat → Sch) (d : World), NamesIn d p m 1 (fun _ => sA) S → Sens d N T → SameS (lawQ w.heap.size 0) (S 0) → Calls Tryz.prog 7 #[ptrV p, lawX.val] d fun e w' => e = .returned (.tuple #[.int .i64 2, .int .i64 0]) ∧ Below d.heap.size d w') := fun p m S d h1 h2 h3 => by
    refine (kindT_calls p m 1 (fun _ => sA) S N T lawX d h1 h2 ⟨Nat.le_refl _, Nat.zero_le _, fun i hi => absurd hi (Nat.not_lt_zero _)⟩).mono ?_
    rintro e w' ⟨K, E, rfl, hk, hB⟩
    obtain ⟨rfl, rfl⟩ := lawX_kind h3 hk
    exact ⟨rfl, hB⟩
  have CB : Hid (Calls Tryz.prog 19 #[] w fun e w' => e = .returned (.slice (some ⟨w.heap.size + 1, 0, none⟩) 1 1) ∧ w' = W) := by rw [← hW]; exact lawBook w
  have HB : Hid (Below w.heap.size w W2) := bt hB hB2
  have HS : Hid (Sens W2 N T) := hS.later (bt hB hB2)
  clear hW hB hB1 hB2 hSc hV hT hS
  go_enter Tryz.func6, Tryz.ntmps6
  go_wp2_with (first
    | (go_at_call 19; refine CB.out.mono ?_; rintro e w2 ⟨rfl, rfl⟩)
    | (go_at_call 4; refine CN.out.mono ?_; rintro e w3 ⟨p, m, S, rfl, hn, hsm, hB3⟩; have HNM : Hid (NamesIn w3 p m 1 (fun _ => sA) S) := hn; have HSM : Hid (SameS (lawQ w.heap.size 0) (S 0)) := hsm; clear hn hsm)
    | (go_at_call 7; refine (CK.out p m S w3 HNM.out (HS.out.later hB3) HSM.out).mono ?_; rintro e w4 ⟨rfl, hB4⟩))
  go_ret
  exact ⟨rfl, bt HB.out (bt hB3 hB4)⟩
end Go.Proofs.YtahlmlbfgijcpaaGreatDoor
