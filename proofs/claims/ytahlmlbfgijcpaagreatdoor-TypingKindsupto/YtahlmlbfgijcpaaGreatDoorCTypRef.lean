/-
  The document's names: all, Type, field (haruspexref10).
-/
import Derived.Test.YtahlmlbfgijcpaaGreatDoorCTypMath
import Derived.Test.YtahlmlbfgijcpaaGreatDoorCExprBase
import Derived.Test.YtahlmlbfgijcpaaGreatDoorCSchRef
namespace Go.Proofs.YtahlmlbfgijcpaaGreatDoor
open Go.RowKit

set_option maxRecDepth 100000 in
set_option maxHeartbeats 2000000 in
theorem refAll_any (a : Option Addr) (n cap : Nat) (K : Nat → Int) (k0 : Int) (w : World) (H : IsI w a n K) (hn : n ≤ 1048576) :
    Calls Tryz.prog 44 #[.slice a n cap, .int .i64 k0] w fun e w' => e = .returned (.bool (allB K k0 n)) ∧ Below w.heap.size w w' := by
  rcases allB_or K k0 n with h | ⟨i, h1, h2, h3⟩
  · rw [allB_yes h]
    have HC : Hid (IsI w a n K) := H
    have HL : Hid (∀ j, j < n → K j = k0) := h
    clear H h
    go_enter Tryz.func44, Tryz.ntmps44
    go_wp2
    go_loopw [5] (fun v wr => ∃ k : Nat, k ≤ n ∧ v = .int .i64 k ∧ Below w.heap.size w wr) (fun v _ => n - (intOf v).toNat)
    case atStart => exact ⟨0, Nat.zero_le _, rfl, Below.refl _ _⟩
    case round =>
      obtain ⟨k, hk, rfl, hB⟩ := hrel
      by_cases hkn : k < n
      · obtain ⟨b, off, rfl, hc⟩ := (HC.out.later hB) (by omega)
        have f0 := hc k hkn
        rw [HL.out k hkn] at f0
        clear hc
        go_wp2
        go_roundw
        case rel => exact ⟨k + 1, by omega, by go_num, hB⟩
        case measure => simp [intOf]; omega
      · go_wp2
        go_ret
        exact ⟨rfl, hB⟩
  · rw [allB_no h2 h1]
    obtain ⟨b, off, rfl, hc⟩ := H (by omega)
    have HC : Hid (∀ j, j < n → _) := hc
    have HE : Hid (¬ K i = k0) := h2
    have HL : Hid (∀ j, j < i → K j = k0) := h3
    clear H hc h2 h3
    go_enter Tryz.func44, Tryz.ntmps44
    go_wp2
    go_loopw [5] (fun v wr => ∃ k : Nat, k ≤ i ∧ v = .int .i64 k ∧ Below w.heap.size w wr) (fun v _ => i - (intOf v).toNat)
    case atStart => exact ⟨0, Nat.zero_le _, rfl, Below.refl _ _⟩
    case round =>
      obtain ⟨k, hk, rfl, hB⟩ := hrel
      have hkn : k < n := by omega
      have f0 := cell_later (HC.out k hkn) hB
      by_cases hki : k = i
      · subst hki
        have h2' : (K k != k0) = true := by simp [HE.out]
        go_wp2
        try rw [Exit.noGoto_ret]
        go_ret
        exact ⟨rfl, hB⟩
      · rw [HL.out k (by omega)] at f0
        go_wp2
        go_roundw
        case rel => exact ⟨k + 1, by omega, by go_num, hB⟩
        case measure => simp [intOf]; omega
/-- The document's names in memory. -/
structure RefN (w : World) (p : Nat) (a : Option Addr) (ns cs : Nat) (Q : Nat → Sch) (av : Option Addr) (nv cv : Nat) (V : Nat → ByteArray) (at_ : Option Addr) (ct : Nat) (T : Nat → ByteArray) : Prop where
  c0 : w.cell? ⟨p, 0, none⟩ = some (.slice a ns cs)
  c1 : w.cell? ⟨p, 1, none⟩ = some (.slice av nv cv)
  c2 : w.cell? ⟨p, 2, none⟩ = some (.slice at_ nv ct)
  sch : Schs w a ns Q
  vars : Txs w av nv V
  types : Txs w at_ nv T
theorem RefN.later {w w' : World} {p : Nat} {a : Option Addr} {ns cs : Nat} {Q : Nat → Sch} {av : Option Addr} {nv cv : Nat} {V : Nat → ByteArray} {at_ : Option Addr} {ct : Nat} {T : Nat → ByteArray} (h : RefN w p a ns cs Q av nv cv V at_ ct T) (hB : Below w.heap.size w w') : RefN w' p a ns cs Q av nv cv V at_ ct T :=
  ⟨cell_later h.c0 hB, cell_later h.c1 hB, cell_later h.c2 hB, h.sch.later hB, h.vars.later hB, h.types.later hB⟩
set_option maxRecDepth 100000 in
set_option maxHeartbeats 4000000 in
theorem refType_some (p : Nat) (a : Option Addr) (ns cs : Nat) (Q : Nat → Sch) (av : Option Addr) (nv cv : Nat) (V : Nat → ByteArray) (at_ : Option Addr) (ct : Nat) (T : Nat → ByteArray) (s : ByteArray) (i : Nat) (w : World) (H : RefN w p a ns cs Q av nv cv V at_ ct T) (hn : nv ≤ 1048576) (hi : i < nv) (he : V i = s) (hl : ∀ j, j < i → ¬ V j = s) :
    Calls Tryz.prog 10 #[.pointer (some ⟨p, 0, none⟩), .string s] w fun e w' => e = .returned (.tuple #[.string (T i), .bool true]) ∧ Below w.heap.size w w' := by
  have HN : Hid (RefN w p a ns cs Q av nv cv V at_ ct T) := H
  have HE : Hid (V i = s) := he
  have HL : Hid (∀ j, j < i → ¬ V j = s) := hl
  clear H he hl
  go_enter Tryz.func10, Tryz.ntmps10
  go_wp2
  go_loopw [6] (fun v wr => ∃ k : Nat, k ≤ i ∧ v = .int .i64 k ∧ Below w.heap.size w wr) (fun v _ => i - (intOf v).toNat)
  case atStart => exact ⟨0, Nat.zero_le _, rfl, Below.refl _ _⟩
  case round =>
    obtain ⟨k, hk, rfl, hB⟩ := hrel
    have hkn : k < nv := by omega
    have h' := HN.out.later hB
    have c1 := h'.c1
    have c2 := h'.c2
    obtain ⟨bv, ov, rfl, hcv⟩ := h'.vars (by omega)
    obtain ⟨b1, ot, rfl, hct⟩ := h'.types (by omega)
    have f1 := hcv k hkn
    have f2 := hct k hkn
    clear h' hcv hct
    by_cases hki : k = i
    · subst hki
      have s1 := str_yes HE.out
      go_wp2
      try rw [Exit.noGoto_ret]
      exact bodyPost_ret (v := .tuple #[.string (T k), .bool true]) (by simp [results, Tryz.results10, go_sem]) rfl ⟨rfl, hB⟩
    · have s1 := str_not (HL.out k (by omega))
      go_wp2
      refine ⟨⟨k + 1, by omega, by simp, hB⟩, ?_⟩
      simp [intOf]
      omega
set_option maxRecDepth 100000 in
set_option maxHeartbeats 4000000 in
theorem refType_none (p : Nat) (a : Option Addr) (ns cs : Nat) (Q : Nat → Sch) (av : Option Addr) (nv cv : Nat) (V : Nat → ByteArray) (at_ : Option Addr) (ct : Nat) (T : Nat → ByteArray) (s : ByteArray) (w : World) (H : RefN w p a ns cs Q av nv cv V at_ ct T) (hn : nv ≤ 1048576) (hl : ∀ j, j < nv → ¬ V j = s) :
    Calls Tryz.prog 10 #[.pointer (some ⟨p, 0, none⟩), .string s] w fun e w' => e = .returned (.tuple #[.string ⟨#[]⟩, .bool false]) ∧ Below w.heap.size w w' := by
  have HN : Hid (RefN w p a ns cs Q av nv cv V at_ ct T) := H
  have HL : Hid (∀ j, j < nv → ¬ V j = s) := hl
  clear H hl
  go_enter Tryz.func10, Tryz.ntmps10
  go_wp2
  go_loopw [6] (fun v wr => ∃ k : Nat, k ≤ nv ∧ v = .int .i64 k ∧ Below w.heap.size w wr) (fun v _ => nv - (intOf v).toNat)
  case atStart => exact ⟨0, Nat.zero_le _, rfl, Below.refl _ _⟩
  case round =>
    obtain ⟨k, hk, rfl, hB⟩ := hrel
    have h' := HN.out.later hB
    have c1 := h'.c1
    have c2 := h'.c2
    by_cases hkn : k < nv
    · obtain ⟨bv, ov, rfl, hcv⟩ := h'.vars (by omega)
      have f1 := hcv k hkn
      clear h' hcv
      have s1 := str_not (HL.out k hkn)
      go_wp2
      refine ⟨⟨k + 1, by omega, by simp, hB⟩, ?_⟩
      simp [intOf]
      omega
    · clear h'
      go_wp2
      exact bodyPost_ret (v := .tuple #[.string ⟨#[]⟩, .bool false]) (by simp [results, Tryz.results10, go_sem]) rfl ⟨rfl, hB⟩
theorem refType_any (p : Nat) (a : Option Addr) (ns cs : Nat) (Q : Nat → Sch) (av : Option Addr) (nv cv : Nat) (V : Nat → ByteArray) (at_ : Option Addr) (ct : Nat) (T : Nat → ByteArray) (s : ByteArray) (w : World) (H : RefN w p a ns cs Q av nv cv V at_ ct T) (hn : nv ≤ 1048576) :
    Calls Tryz.prog 10 #[.pointer (some ⟨p, 0, none⟩), .string s] w fun e w' => e = .returned (.tuple #[.string (match idx V s nv with | some i => T i | none => ⟨#[]⟩), .bool (idx V s nv).isSome]) ∧ Below w.heap.size w w' := by
  cases e : idx V s nv with
  | none => exact refType_none p a ns cs Q av nv cv V at_ ct T s w H hn (idx_none _ _ _ e)
  | some i =>
    obtain ⟨h1, h2, h3⟩ := idx_some _ _ _ _ e
    exact refType_some p a ns cs Q av nv cv V at_ ct T s i w H hn h1 h2 h3
theorem refField_at (x : Sch) (f : ByteArray) (w : World) (hF : Flds w x.a x.l x.fn x.fk) (hl : x.l ≤ 9223372036854775807) : Calls Tryz.prog 62 #[schV x.nm x.v, .string f] w fun e w' => ∃ i : Int, e = .returned (.tuple #[.int .i64 i, .int .i64 (match idx x.fn f x.l with | none => 0 | some k => x.fk k), .bool (idx x.fn f x.l).isSome]) ∧ Below w.heap.size w w' := by
  cases e : idx x.fn f x.l with
  | none =>
    refine (refField_none x.nm x.a x.l x.c x.fn x.fk f w hF (by omega) (idx_none _ _ _ e)).mono ?_
    rintro e w' ⟨rfl, hB⟩
    exact ⟨0, rfl, hB⟩
  | some k =>
    obtain ⟨h1, h2, h3⟩ := idx_some _ _ _ _ e
    refine (refField_some x.nm x.a x.l x.c k x.fn x.fk f w hF (by omega) h1 h2 h3).mono ?_
    rintro e w' ⟨rfl, hB⟩
    exact ⟨k, rfl, hB⟩
set_option maxRecDepth 100000 in
set_option maxHeartbeats 4000000 in
theorem refFld_none (p : Nat) (a : Option Addr) (ns cs : Nat) (Q : Nat → Sch) (av : Option Addr) (nv cv : Nat) (V : Nat → ByteArray) (at_ : Option Addr) (ct : Nat) (T : Nat → ByteArray) (s f : ByteArray) (w : World) (H : RefN w p a ns cs Q av nv cv V at_ ct T) (hn : nv ≤ 1048576) (he : idx V s nv = none) :
    Calls Tryz.prog 43 #[.pointer (some ⟨p, 0, none⟩), .string s, .string f] w fun e w' => e = .returned (.tuple #[.int .i64 0, .int .i64 6]) ∧ Below w.heap.size w w' := by
  have C := refType_any p a ns cs Q av nv cv V at_ ct T s w H hn
  rw [he] at C
  have HC : Hid (Calls Tryz.prog 10 _ w _) := C
  clear C H hn he
  go_enter Tryz.func43, Tryz.ntmps43
  go_wp2_with (first | (go_at_call 10; refine HC.out.mono ?_; rintro e w2 ⟨rfl, hB2⟩))
  exact bodyPost_ret (v := .tuple #[.int .i64 0, .int .i64 6]) (by simp [results, Tryz.results43, go_sem]) rfl ⟨rfl, hB2⟩
set_option maxRecDepth 100000 in
set_option maxHeartbeats 4000000 in
theorem refFld_some (p : Nat) (a : Option Addr) (ns cs : Nat) (Q : Nat → Sch) (av : Option Addr) (nv cv : Nat) (V : Nat → ByteArray) (at_ : Option Addr) (ct : Nat) (T : Nat → ByteArray) (s f : ByteArray) (i j : Nat) (w : World) (H : RefN w p a ns cs Q av nv cv V at_ ct T) (hn : nv ≤ 1048576) (hns : ns ≤ 16) (he : idx V s nv = some i) (hj : idx (fun i => (Q i).nm) (T i) ns = some j) :
    Calls Tryz.prog 43 #[.pointer (some ⟨p, 0, none⟩), .string s, .string f] w fun e w' => e = .returned (.tuple #[.int .i64 (match idx (Q j).fn f (Q j).l with | none => 0 | some k => (Q j).fk k), .int .i64 (match idx (Q j).fn f (Q j).l with | none => 6 | some _ => 0)]) ∧ Below w.heap.size w w' := by
  have C := refType_any p a ns cs Q av nv cv V at_ ct T s w H hn
  rw [he] at C
  have HC : Hid (Calls Tryz.prog 10 _ w _) := C
  have HN : Hid (RefN w p a ns cs Q av nv cv V at_ ct T) := H
  obtain ⟨j1, j2, j3⟩ := idx_some _ _ _ _ hj
  have CF : Hid (∀ d, Below w.heap.size w d → Calls Tryz.prog 18 #[.slice a ns cs, .string (T i)] d _) := fun d hd => refFind_some a ns cs j (fun i => (Q i).nm) (fun i => (Q i).v) (T i) d (H.sch.later hd).1 (by omega) j1 j2 j3
  have CD : Hid (∀ d, Below w.heap.size w d → Calls Tryz.prog 62 #[schV (Q j).nm (Q j).v, .string f] d _) := fun d hd => refField_at (Q j) f d ((H.sch.later hd).2 j j1).1 ((H.sch.later hd).2 j j1).2
  clear C H hn he hj j2 j3
  cases hx : idx (Q j).fn f (Q j).l with
  | none =>
    rw [hx] at CD
    clear hx
    go_enter Tryz.func43, Tryz.ntmps43
    go_wp2_with (first
      | (go_at_call 10; refine HC.out.mono ?_; rintro e w2 ⟨rfl, hB2⟩; have c0 := (HN.out.later hB2).c0)
      | (go_at_call 18; refine (CF.out _ hB2).mono ?_; rintro e w3 ⟨rfl, hB3⟩; have hB23 := bt hB2 hB3; have d0 := (HN.out.later hB23).c0; obtain ⟨b0, o0, rfl, hc0⟩ := (HN.out.later hB23).sch.1 (by omega); have d1 := (hc0 j j1).1.1; have d2 := (hc0 j j1).1.2; clear hc0)
      | (go_at_call 62; refine (CD.out _ hB23).mono ?_; rintro e w4 ⟨q, rfl, hB4⟩))
    exact bodyPost_ret (v := .tuple #[.int .i64 0, .int .i64 6]) (by simp [results, Tryz.results43, go_sem]) rfl ⟨rfl, bt hB23 hB4⟩
  | some k =>
    rw [hx] at CD
    clear hx
    go_enter Tryz.func43, Tryz.ntmps43
    go_wp2_with (first
      | (go_at_call 10; refine HC.out.mono ?_; rintro e w2 ⟨rfl, hB2⟩; have c0 := (HN.out.later hB2).c0)
      | (go_at_call 18; refine (CF.out _ hB2).mono ?_; rintro e w3 ⟨rfl, hB3⟩; have hB23 := bt hB2 hB3; have d0 := (HN.out.later hB23).c0; obtain ⟨b0, o0, rfl, hc0⟩ := (HN.out.later hB23).sch.1 (by omega); have d1 := (hc0 j j1).1.1; have d2 := (hc0 j j1).1.2; clear hc0)
      | (go_at_call 62; refine (CD.out _ hB23).mono ?_; rintro e w4 ⟨q, rfl, hB4⟩))
    exact bodyPost_ret (v := .tuple #[.int .i64 ((Q j).fk k), .int .i64 0]) (by simp [results, Tryz.results43, go_sem]) rfl ⟨rfl, bt hB23 hB4⟩
/-- A field's kind and error, as the document has them. -/
def fldQ (q : Option Int) : Int := q.getD 0
def fldR (q : Option Int) : Int := if q.isSome then 0 else 6
/-- What the document's field answers. -/
def RefFieldC (pv : Value) (L : ByteArray → ByteArray → Option Int) (d : World) : Prop :=
  ∀ s f, Calls Tryz.prog 43 #[pv, .string s, .string f] d fun e w' => e = .returned (.tuple #[.int .i64 (fldQ (L s f)), .int .i64 (fldR (L s f))]) ∧ Below d.heap.size d w'
theorem refFieldC_any (p : Nat) (a : Option Addr) (ns cs : Nat) (Q : Nat → Sch) (av : Option Addr) (nv cv : Nat) (V : Nat → ByteArray) (at_ : Option Addr) (ct : Nat) (T : Nat → ByteArray) (w : World) (H : RefN w p a ns cs Q av nv cv V at_ ct T) (hn : nv ≤ 1048576) (hns : ns ≤ 16) (hl : ∀ j, j < nv → ∃ i, idx (fun i => (Q i).nm) (T j) ns = some i) : RefFieldC (.pointer (some ⟨p, 0, none⟩)) (lookN nv V T ns Q) w := by
  intro s f
  unfold lookN
  cases e : idx V s nv with
  | none => exact refFld_none p a ns cs Q av nv cv V at_ ct T s f w H hn e
  | some i =>
    obtain ⟨j, hj⟩ := hl i (idx_some _ _ _ _ e).1
    have := refFld_some p a ns cs Q av nv cv V at_ ct T s f i j w H hn hns e hj
    simp only [hj]
    cases hx : idx (Q j).fn f (Q j).l with
    | none => rw [hx] at this; exact this
    | some k => rw [hx] at this; exact this
end Go.Proofs.YtahlmlbfgijcpaaGreatDoor
