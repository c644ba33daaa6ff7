/-
  What event looks up in schemas (P8.2): the schema of a name, a field's place, Has.
-/
import Derived.Test.YtelabjipclfpnaaEvBase
import Derived.Test.YtelabjipclfpnaaSchField
import Derived.Test.YtelabjipclfpnaaSchBox
namespace Go.Proofs.Ytelabjipclfpnaa
open Go.RowKit

set_option maxHeartbeats 1000000 in
theorem of_some (a : Option Addr) (n cap i : Nat) (Q : Nat → Sch) (s : ByteArray) (w : World) (H : Schs w a n Q) (hn : n ≤ 9223372036854775807) (hi : i < n) (he : (Q i).nm = s) (hl : ∀ j, j < i → ¬ (Q j).nm = s) :
    Calls Try.prog 31 #[.slice a n cap, .string s] w fun e w' => e = .returned (.tuple #[schV (Q i).nm (Q i).v, .bool true]) ∧ Below w.heap.size w w' := by
  have hB0 : Below w.heap.size w (w.alloc (schO ⟨#[]⟩ (.slice none 0 0))) := (Below.refl _ _).alloc (Nat.le_refl _) _
  have H1 := H.later hB0
  have C : Hid (Calls Try.prog 39 _ (w.alloc (schO ⟨#[]⟩ (.slice none 0 0))) _) := find_some a n cap i _ _ s _ H1.1 hn hi he hl
  have HX := Box2.new 50 w (.string ⟨#[]⟩) (.slice none 0 0)
  have HR : Hid (Schs (w.alloc (schO ⟨#[]⟩ (.slice none 0 0))) a n Q) := H1
  have HB : Hid (Box2 50 (w.alloc (schO ⟨#[]⟩ (.slice none 0 0))) w.heap.size (.string ⟨#[]⟩) (.slice none 0 0)) := HX
  clear he hl H H1 HX
  go_enter Try.func31, Try.ntmps31
  go_upto_region 2 with (first | (go_at_call 39; refine C.out.mono ?_; rintro e w1 ⟨rfl, hB1⟩))
  have B1 : Hid (Box2 50 w1 w.heap.size (.string ⟨#[]⟩) (.slice none 0 0)) := HB.out.keep (keep_below hB1)
  have hB2 : Hid (Below w.heap.size w w1) := bt hB0 hB1
  have HG := HR.out.later hB1
  obtain ⟨bs, hbs⟩ : ∃ bs, bs = w.heap.size := ⟨_, rfl⟩
  rw [← hbs] at B1
  have HZ : Hid (w.heap.size ≤ bs) := Nat.le_of_eq hbs.symm
  rw [← hbs]
  clear hbs hB0 hB1 C HB HR
  obtain ⟨b, off, rfl, hc⟩ := HG.1 (by omega)
  have f0 := (hc i hi).1.1
  have f1 := (hc i hi).1.2
  have x0 := B1.out.cells.1
  have x1 := B1.out.cells.2
  have z0 := B1.out.frozen 0
  have z1 := B1.out.frozen 1
  clear hc HG
  go_wp2_with fail
  obtain ⟨y0, y1⟩ := ((B1.out.set0 (.string (Q i).nm)).set1 (Q i).v).cells
  exact bodyPost_ret (v := .tuple #[schV (Q i).nm (Q i).v, .bool true]) (by simp [results, Try.results31, go_sem, x0, x1]) rfl ⟨rfl, (hB2.out.setCell HZ.out _).setCell HZ.out _⟩
set_option maxHeartbeats 1000000 in
theorem of_none (a : Option Addr) (n cap : Nat) (Q : Nat → Sch) (s : ByteArray) (w : World) (H : Schs w a n Q) (hn : n ≤ 9223372036854775807) (hl : ∀ j, j < n → ¬ (Q j).nm = s) :
    Calls Try.prog 31 #[.slice a n cap, .string s] w fun e w' => e = .returned (.tuple #[schV ⟨#[]⟩ (.slice none 0 0), .bool false]) ∧ Below w.heap.size w w' := by
  have hB0 : Below w.heap.size w (w.alloc (schO ⟨#[]⟩ (.slice none 0 0))) := (Below.refl _ _).alloc (Nat.le_refl _) _
  have H1 := H.later hB0
  have C : Hid (Calls Try.prog 39 _ (w.alloc (schO ⟨#[]⟩ (.slice none 0 0))) _) := find_none a n cap _ _ s _ H1.1 hn hl
  have HX := Box2.new 50 w (.string ⟨#[]⟩) (.slice none 0 0)
  have HB : Hid (Box2 50 (w.alloc (schO ⟨#[]⟩ (.slice none 0 0))) w.heap.size (.string ⟨#[]⟩) (.slice none 0 0)) := HX
  clear hl H H1 HX
  go_enter Try.func31, Try.ntmps31
  go_upto_region 2 with (first | (go_at_call 39; refine C.out.mono ?_; rintro e w1 ⟨rfl, hB1⟩))
  have B1 : Hid (Box2 50 w1 w.heap.size (.string ⟨#[]⟩) (.slice none 0 0)) := HB.out.keep (keep_below hB1)
  have hB2 : Hid (Below w.heap.size w w1) := bt hB0 hB1
  obtain ⟨bs, hbs⟩ : ∃ bs, bs = w.heap.size := ⟨_, rfl⟩
  rw [← hbs] at B1
  have HZ : Hid (w.heap.size ≤ bs) := Nat.le_of_eq hbs.symm
  rw [← hbs]
  clear hbs hB0 hB1 C HB
  have x0 := B1.out.cells.1
  have x1 := B1.out.cells.2
  have z0 := B1.out.frozen 0
  have z1 := B1.out.frozen 1
  go_wp2_with fail
  exact bodyPost_ret (v := .tuple #[schV ⟨#[]⟩ (.slice none 0 0), .bool false]) (by simp [results, Try.results31, go_sem, x0, x1]) rfl ⟨rfl, (hB2.out.setCell HZ.out _).setCell HZ.out _⟩
set_option maxHeartbeats 1000000 in
theorem place_of (a : Option Addr) (n cap : Nat) (s f nm : ByteArray) (fa : Option Addr) (fl fc : Nat) (b : Bool) (i k : Int) (g : Bool) (w : World)
    (c1 : Calls Try.prog 31 #[.slice a n cap, .string s] w fun e w' => e = .returned (.tuple #[schV nm (.slice fa fl fc), .bool b]) ∧ Below w.heap.size w w')
    (c2 : ∀ d, Below w.heap.size w d → Calls Try.prog 33 #[schV nm (.slice fa fl fc), .string f] d fun e w' => e = .returned (.tuple #[.int .i64 i, .int .i64 k, .bool g]) ∧ Below d.heap.size d w') :
    Calls Try.prog 21 #[.slice a n cap, .string s, .string f] w fun e w' => e = .returned (.tuple #[.int .i64 i, .bool g]) ∧ Below w.heap.size w w' := by
  have C1 : Hid (Calls Try.prog 31 _ w _) := c1
  have C2 : Hid (∀ d, _ → Calls Try.prog 33 _ d _) := c2
  clear c1 c2
  go_enter Try.func21, Try.ntmps21
  go_wp2_with (first
    | (go_at_call 31
       refine C1.out.mono ?_
       rintro e w1 ⟨rfl, hB1⟩
       have hB2 : Hid (Below w.heap.size w (w1.alloc (schO nm (.slice fa fl fc)))) := bt hB1 ((Below.refl _ _).alloc (Nat.le_refl _) _))
    | (go_at_call 33; refine (C2.out _ hB2.out).mono ?_; rintro e w2 ⟨rfl, hB3⟩))
  exact bodyPost_ret (v := .tuple #[.int .i64 i, .bool g]) (by simp [results, Try.results21, go_sem]) rfl ⟨rfl, bt hB2.out hB3⟩
/-- The place of a field of the schema of a name. -/
theorem place_any (a : Option Addr) (n cap : Nat) (Q : Nat → Sch) (s f : ByteArray) (w : World) (H : Schs w a n Q) (hn : n ≤ 9223372036854775807) :
    Calls Try.prog 21 #[.slice a n cap, .string s, .string f] w fun e w' => e = .returned (.tuple #[.int .i64 ((plc n Q s f).getD 0 : Nat), .bool (plc n Q s f).isSome]) ∧ Below w.heap.size w w' := by
  unfold plc schOf
  cases hi : idx (fun j => (Q j).nm) s n with
  | none =>
    exact place_of a n cap s f ⟨#[]⟩ none 0 0 false 0 0 false w (of_none a n cap Q s w H hn (idx_none _ s n hi)) fun d _ => field_none ⟨#[]⟩ none 0 0 (fun _ => ⟨#[]⟩) (fun _ => 0) f d (fun h => by omega) (by omega) (fun j hj => by omega)
  | some i =>
    obtain ⟨h1, h2, h3⟩ := idx_some _ s n i hi
    have hq := H.2 i h1
    show Calls _ _ _ _ fun e w' => e = .returned (.tuple #[.int .i64 ((idx (Q i).fn f (Q i).l).getD 0 : Nat), .bool (idx (Q i).fn f (Q i).l).isSome]) ∧ Below w.heap.size w w'
    cases hk : idx (Q i).fn f (Q i).l with
    | none => exact place_of a n cap s f (Q i).nm (Q i).a (Q i).l (Q i).c true 0 0 false w (of_some a n cap i Q s w H hn h1 h2 h3) fun d hd => field_none (Q i).nm _ _ _ _ _ f d (hq.1.later hd) hq.2 (idx_none _ f _ hk)
    | some k =>
      obtain ⟨g1, g2, g3⟩ := idx_some _ f _ k hk
      exact place_of a n cap s f (Q i).nm (Q i).a (Q i).l (Q i).c true k ((Q i).fk k) true w (of_some a n cap i Q s w H hn h1 h2 h3) fun d hd => field_some (Q i).nm _ _ _ k _ _ f d (hq.1.later hd) hq.2 g1 g2 g3
set_option maxHeartbeats 1000000 in
theorem has_any (a : Option Addr) (n cap : Nat) (Q : Nat → Sch) (s f : ByteArray) (w : World) (H : Schs w a n Q) (hn : n ≤ 9223372036854775807) :
    Calls Try.prog 15 #[.slice a n cap, .string s, .string f] w fun e w' => e = .returned (.bool (plc n Q s f).isSome) ∧ Below w.heap.size w w' := by
  have C1 : Hid (Calls Try.prog 21 _ w _) := place_any a n cap Q s f w H hn
  generalize plc n Q s f = o at C1
  clear H
  go_enter Try.func15, Try.ntmps15
  go_wp2_with (first | (go_at_call 21; refine C1.out.mono ?_; rintro e w1 ⟨rfl, hB1⟩))
  go_ret
  exact ⟨rfl, hB1⟩
end Go.Proofs.Ytelabjipclfpnaa
