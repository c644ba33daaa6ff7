/-
  typing.New where it is handed no book, or other many types than Vars; and New at all.
-/
import Derived.Test.YtahlmlbfgijcpaaGreatDoorCTypNew
namespace Go.Proofs.YtahlmlbfgijcpaaGreatDoor
open Go.RowKit Go.Shelf
attribute [local go_sem] Oper.semAt_some

set_option maxRecDepth 100000 in
set_option maxHeartbeats 4000000 in
theorem new_book (n : Nat) (a : Option Addr) (ns cs : Nat) (Q : Nat → Sch) (av : Option Addr) (nv cv : Nat) (at_ : Option Addr) (nt ct : Nat) (w : World) (H : Schs w a ns Q) (hb : ¬ bookZ ns Q = 0) :
    CallsIn Fence.wide n Tryz.prog 4 #[.slice a ns cs, .slice av nv cv, .slice at_ nt ct] w fun e w' => e = .returned (.tuple #[.pointer none, .int .i64 1]) ∧ Below w.heap.size w w' := by
  have hdd : ∀ k : Nat, (Fence.wide.depth.isSome = true → 1 ≤ k) := fun k h => by cases h
  obtain ⟨A, hA, hsz, hB, b0, b1, b2, b3⟩ := new_boxes w (.slice a ns cs) (.slice av nv cv)
  have CB : Calls Tryz.prog 13 #[.slice a ns cs] A fun e w' => e = .returned (.int .i64 (bookZ ns Q)) ∧ Below A.heap.size A w' := book_any a ns cs Q A (H.later hB)
  have hb' : (bookZ ns Q != 0) = true := by simp [hb]
  generalize bookZ ns Q = r at CB hb' hb
  have HCB : Hid (Calls Tryz.prog 13 _ A _) := CB
  have HB : Hid (Below w.heap.size w A) := hB
  have K1 : Hid (Boxed A (w.heap.size + 1) 23 (.slice av nv cv)) := b1
  have K2 : Hid (Boxed A (w.heap.size + 1 + 1) 29 (.pointer none)) := b2
  have K3 : Hid (Boxed A (w.heap.size + 1 + 1 + 1) 30 (.int .i64 0)) := b3
  have c0 := b0.cell
  clear hB hsz b0 b1 b2 b3 H CB
  refine callsIn_of_wp_marks Tryz.func4 rfl trivial ?_ rfl
  simp only [Tryz.ntmps4, List.size_toArray, List.length_cons, List.length_nil, Nat.reduceAdd, Nat.reduceSub, Array.replicate_succ, Array.replicate_zero, List.push_toArray, List.append_toArray, List.nil_append, List.cons_append]
  gi_wp2_with (first
    | (refine ⟨trivial, hdd _, ?_⟩; gi_at_call 13; refine (callsIn_wide.2 HCB.out).mono ?_; rintro e A1 ⟨rfl, hB1⟩; have d1 := (Boxed.kept_of K1.out hB1 (Boxed.lt K1.out)).cell; have k2 := Boxed.kept_of K2.out hB1 (Boxed.lt K2.out); have k3 := Boxed.kept_of K3.out hB1 (Boxed.lt K3.out); have g2 := k2.cell; have h2 := k2.frozen; have k3' := k3.other (show w.heap.size + 1 + 1 + 1 ≠ w.heap.size + 1 + 1 by omega) (.pointer none); have g3 := k3'.cell; have h3 := k3'.frozen; have HK2 : Hid (Boxed A1 (w.heap.size + 1 + 1) 29 (.pointer none)) := k2; have HK3 : Hid (Boxed _ (w.heap.size + 1 + 1 + 1) 30 (.int .i64 0)) := k3'; clear k2 k3 k3'))
  have r2 := ((HK2.out.set (.pointer none)).other (show w.heap.size + 1 + 1 ≠ w.heap.size + 1 + 1 + 1 by omega) (.int .i64 1)).cell
  have r3 := (HK3.out.set (.int .i64 1)).cell
  refine ⟨.tuple #[.pointer none, .int .i64 1], ?_, rfl, ?_⟩
  · simp [results, Tryz.f4, go_sem, r2, r3]
  · have hq := hB1.mono HB.out.size
    exact ((HB.out.trans hq).setCell (p := ⟨w.heap.size + 1 + 1, 0, none⟩) (by simp; omega) _).setCell (p := ⟨w.heap.size + 1 + 1 + 1, 0, none⟩) (by simp; omega) _
set_option maxRecDepth 100000 in
set_option maxHeartbeats 4000000 in
theorem new_lens (n : Nat) (a : Option Addr) (ns cs : Nat) (Q : Nat → Sch) (av : Option Addr) (nv cv : Nat) (at_ : Option Addr) (nt ct : Nat) (w : World) (H : Schs w a ns Q) (hb : bookZ ns Q = 0) (hne : ¬ nv = nt) :
    CallsIn Fence.wide n Tryz.prog 4 #[.slice a ns cs, .slice av nv cv, .slice at_ nt ct] w fun e w' => e = .returned (.tuple #[.pointer none, .int .i64 1]) ∧ Below w.heap.size w w' := by
  have hdd : ∀ k : Nat, (Fence.wide.depth.isSome = true → 1 ≤ k) := fun k h => by cases h
  obtain ⟨A, hA, hsz, hB, b0, b1, b2, b3⟩ := new_boxes w (.slice a ns cs) (.slice av nv cv)
  have CB : Calls Tryz.prog 13 #[.slice a ns cs] A fun e w' => e = .returned (.int .i64 (bookZ ns Q)) ∧ Below A.heap.size A w' := book_any a ns cs Q A (H.later hB)
  rw [hb] at CB
  have hne' : ((nv : Int) != (nt : Int)) = true := by simp; omega
  have HCB : Hid (Calls Tryz.prog 13 _ A _) := CB
  have HB : Hid (Below w.heap.size w A) := hB
  have K1 : Hid (Boxed A (w.heap.size + 1) 23 (.slice av nv cv)) := b1
  have K2 : Hid (Boxed A (w.heap.size + 1 + 1) 29 (.pointer none)) := b2
  have K3 : Hid (Boxed A (w.heap.size + 1 + 1 + 1) 30 (.int .i64 0)) := b3
  have c0 := b0.cell
  clear hB hsz b0 b1 b2 b3 H CB
  refine callsIn_of_wp_marks Tryz.func4 rfl trivial ?_ rfl
  simp only [Tryz.ntmps4, List.size_toArray, List.length_cons, List.length_nil, Nat.reduceAdd, Nat.reduceSub, Array.replicate_succ, Array.replicate_zero, List.push_toArray, List.append_toArray, List.nil_append, List.cons_append]
  gi_wp2_with (first
    | (refine ⟨trivial, hdd _, ?_⟩; gi_at_call 13; refine (callsIn_wide.2 HCB.out).mono ?_; rintro e A1 ⟨rfl, hB1⟩; have d1 := (Boxed.kept_of K1.out hB1 (Boxed.lt K1.out)).cell; have k2 := Boxed.kept_of K2.out hB1 (Boxed.lt K2.out); have k3 := Boxed.kept_of K3.out hB1 (Boxed.lt K3.out); have g2 := k2.cell; have h2 := k2.frozen; have k3' := k3.other (show w.heap.size + 1 + 1 + 1 ≠ w.heap.size + 1 + 1 by omega) (.pointer none); have g3 := k3'.cell; have h3 := k3'.frozen; have HK2 : Hid (Boxed A1 (w.heap.size + 1 + 1) 29 (.pointer none)) := k2; have HK3 : Hid (Boxed _ (w.heap.size + 1 + 1 + 1) 30 (.int .i64 0)) := k3'; clear k2 k3 k3'))
  have r2 := ((HK2.out.set (.pointer none)).other (show w.heap.size + 1 + 1 ≠ w.heap.size + 1 + 1 + 1 by omega) (.int .i64 1)).cell
  have r3 := (HK3.out.set (.int .i64 1)).cell
  refine ⟨.tuple #[.pointer none, .int .i64 1], ?_, rfl, ?_⟩
  · simp [results, Tryz.f4, go_sem, r2, r3]
  · have hq := hB1.mono HB.out.size
    exact ((HB.out.trans hq).setCell (p := ⟨w.heap.size + 1 + 1, 0, none⟩) (by simp; omega) _).setCell (p := ⟨w.heap.size + 1 + 1 + 1, 0, none⟩) (by simp; omega) _
/-- What New answers. -/
def NewIs (w : World) (nv : Nat) (V : Nat → ByteArray) (nt : Nat) (T : Nat → ByteArray) (ns : Nat) (Q : Nat → Sch) (e : Ending) (w' : World) : Prop :=
  (newZ nv nt T ns Q = 0 ∧ nv = nt ∧ ∃ p m S, e = .returned (.tuple #[.pointer (some ⟨p, 0, none⟩), .int .i64 0]) ∧ NamesIn w' p m nv V S ∧ (∀ j, j < nv → ∃ i, idx (fun i => (Q i).nm) (T j) ns = some i ∧ SameS (Q i) (S j)) ∧ Below w.heap.size w w') ∨
    (¬ newZ nv nt T ns Q = 0 ∧ e = .returned (.tuple #[.pointer none, .int .i64 (newZ nv nt T ns Q)]) ∧ Below w.heap.size w w')
theorem new_any (a : Option Addr) (ns cs : Nat) (Q : Nat → Sch) (av : Option Addr) (nv cv : Nat) (V : Nat → ByteArray) (at_ : Option Addr) (nt ct : Nat) (T : Nat → ByteArray) (w : World) (H : Schs w a ns Q) (hV : Txs w av nv V) (hT : Txs w at_ nt T) (hm : nt ≤ 1048576) (hVs : ∀ j, j < nv → (V j).size ≤ maxLen) :
    Calls Tryz.prog 4 #[.slice a ns cs, .slice av nv cv, .slice at_ nt ct] w fun e w' => NewIs w nv V nt T ns Q e w' := by
  refine (callsIn_wide (n := 3)).1 ?_
  by_cases hb : bookZ ns Q = 0
  · by_cases hne : nv = nt
    · subst hne
      refine (new_in 3 a ns cs Q av nv cv V at_ ct T w H hV hT hm hVs hb).mono ?_
      rintro e w' (⟨h1, p, m, S, h2⟩ | ⟨h1, h2⟩)
      · exact .inl ⟨by simp [newZ, hb, h1], rfl, p, m, S, h2⟩
      · have e6 : newZ nv nv T ns Q = 6 := by simp [newZ, hb, h1]
        exact .inr ⟨by omega, by rw [e6]; exact h2⟩
    · refine (new_lens 3 a ns cs Q av nv cv at_ nt ct w H hb hne).mono ?_
      rintro e w' h
      have e1 : newZ nv nt T ns Q = 1 := by simp [newZ, hne]
      exact .inr ⟨by omega, by rw [e1]; exact h⟩
  · refine (new_book 3 a ns cs Q av nv cv at_ nt ct w H hb).mono ?_
    rintro e w' h
    have e1 : newZ nv nt T ns Q = 1 := by simp [newZ, hb]
    exact .inr ⟨by omega, by rw [e1]; exact h⟩
end Go.Proofs.YtahlmlbfgijcpaaGreatDoor
