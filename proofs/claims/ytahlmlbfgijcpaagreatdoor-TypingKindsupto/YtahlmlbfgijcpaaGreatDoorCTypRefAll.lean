/-
  The document's kind of any right condition; Kind and Cond of any (haruspexref10).
-/
import Derived.Test.YtahlmlbfgijcpaaGreatDoorCTypRefKind
import Derived.Test.YtahlmlbfgijcpaaGreatDoorCTypCalls
import Derived.Test.YtahlmlbfgijcpaaGreatDoorCExprRef
import Derived.Test.YtahlmlbfgijcpaaGreatDoorCSchRefBook
import Derived.Test.YtahlmlbfgijcpaaGreatDoorCTypNew
namespace Go.Proofs.YtahlmlbfgijcpaaGreatDoor
open Go.RowKit

theorem refKindT_any (pv : Value) (L : ByteArray → ByteArray → Option Int) : ∀ (x : X) (w : World), IsX w x → TreeR x → x.size ≤ 1048576 → (∀ d, Below w.heap.size w d → RefFieldC pv L d) → RefKindC pv x (kindE L x).1 (kindE L x).2 w := by
  refine X.ind fun x ih w hX hR hsz HF => ?_
  obtain ⟨hr, hp⟩ := (treeR_eq x).1 hR
  have hn : x.n ≤ 1048576 := by have := x.n_lt; omega
  have HK : ∀ i, i < x.n → ∀ d, Below w.heap.size w d → RefKindC pv (x.c i) (kindE L (x.c i)).1 (kindE L (x.c i)).2 d := fun i hi d hd => by
    obtain ⟨_, _, _, _, hx⟩ := hX.part hi
    exact ih i hi d (hx.later hd) (hp i hi) (by have := x.size_part i hi; omega) fun d' h' => HF d' (bt hd h')
  have rest : 3 ≤ x.k → x.k ≤ 17 → (x.k = 9 ∨ x.k = 10 → x.n = 2) → RefKindC pv x (kindE L x).1 (kindE L x).2 w := by
    intro h3 h17 h2
    rcases errs_or (fun i => (kindE L (x.c i)).2) x.n with ⟨he, h0⟩ | ⟨i, hi, hne, he, h0⟩
    · rw [kindE_parts h3 he]
      have fin : ∀ (q : Bool) (o : Int), RefKindC pv x (if q = true then o else 0) (if q = true then 0 else 5) w → RefKindC pv x (if q = true then (o, (0 : Int)) else (0, 5)).1 (if q = true then (o, (0 : Int)) else (0, 5)).2 w := fun q o h => by cases q <;> exact h
      refine fin _ _ ?_
      by_cases hA : x.k ≤ 8
      · rw [show outK x.k = 2 by simp [outK]; omega, show fineK x.k x.n (fun i => (kindE L (x.c i)).1) = allB (fun i => (kindE L (x.c i)).1) 2 x.n by rw [fineK, if_pos ⟨h3, hA⟩]]
        exact refKind_A pv x _ _ w hX h3 hA hn HK h0
      · have ho : outK x.k = 1 := by rw [outK, if_neg (by omega)]
        rw [ho]
        by_cases hB : x.k ≤ 10
        · rw [show fineK x.k x.n (fun i => (kindE L (x.c i)).1) = (decide ((kindE L (x.c 0)).1 = (kindE L (x.c 1)).1) || (decide ((kindE L (x.c 0)).1 = 0) || decide ((kindE L (x.c 1)).1 = 0))) by rw [fineK, if_neg (by omega), if_pos (by omega)]]
          by_cases h9 : x.k = 9
          · exact refKind_B9 pv x _ _ w hX h9 (h2 (by omega)) hn HK h0
          · exact refKind_B10 pv x _ _ w hX (by omega) (h2 (by omega)) hn HK h0
        · by_cases hC : x.k ≤ 14
          · rw [show fineK x.k x.n (fun i => (kindE L (x.c i)).1) = (allB (fun i => (kindE L (x.c i)).1) 2 x.n || allB (fun i => (kindE L (x.c i)).1) 3 x.n) by rw [fineK, if_neg (by omega), if_neg (by omega), if_pos (by omega)]]
            exact refKind_C pv x _ _ w hX (by omega) hC hn HK h0
          · rw [show fineK x.k x.n (fun i => (kindE L (x.c i)).1) = allB (fun i => (kindE L (x.c i)).1) 1 x.n by rw [fineK, if_neg (by omega), if_neg (by omega), if_neg (by omega)]]
            exact refKind_D pv x _ _ w hX (by omega) hn HK h0
    · rw [kindE_err h3 (by show ¬ lexN _ _ = 0; rw [he]; exact hne)]
      show RefKindC pv x 0 (lexN _ _) w
      rw [he]
      exact refKind_err pv x _ _ i w hX hn HK hi hne h0
  rcases hr.2.2 with ⟨hk, hn0, _⟩ | ⟨hk, hn0, hnm, _⟩ | ⟨hk, hn0⟩ | ⟨h4, h14, hn0⟩ | ⟨hk, _, _⟩
  · rw [kindE_const hk hn0]
    exact refKind_const pv x (fun i => (kindE L (x.c i)).1) (fun i => (kindE L (x.c i)).2) w hX hk hn HK (fun j hj => by omega)
  · rw [kindE_field hk hn0]
    have := refKind_field pv x (fun i => (kindE L (x.c i)).1) (fun i => (kindE L (x.c i)).2) w hX L hk HF hn HK (fun j hj => by omega)
    revert this
    cases L x.s x.f with
    | none => exact fun h => h
    | some q => exact fun h => h
  · exact rest (by omega) (by omega) (by omega)
  · exact rest (by omega) (by omega) (fun _ => hn0)
  · exact rest (by omega) (by omega) (by omega)
set_option maxRecDepth 100000 in
set_option maxHeartbeats 2000000 in
theorem refKindU_calls (pv : Value) (L : ByteArray → ByteArray → Option Int) (x : X) (w : World) (hX : IsX w x) (ok : XOk x) (hsz : x.size ≤ 1048576) (HF : ∀ d, Below w.heap.size w d → RefFieldC pv L d) : Calls Tryz.prog 8 #[pv, x.val] w fun e w' => ∃ K E, e = .returned (.tuple #[.int .i64 K, .int .i64 E]) ∧ KindIs L x K E ∧ Below w.heap.size w w' := by
  obtain ⟨A, hA, hB, hs, hn⟩ := one_box x w
  have HN : Hid (Node A w.heap.size 0 x) := hn
  obtain ⟨a0, a1, a2, a3, a4, a5, a6⟩ := hn.at0
  have HB : Hid (Below w.heap.size w A) := hB
  have CC : Hid (Calls Tryz.prog 24 _ A _) := refCheckX_any x A (hX.later hB) ok hsz
  have CK : Hid (∀ d, Below w.heap.size w d → TreeR x → RefKindC pv x (kindE L x).1 (kindE L x).2 d) := fun d hd h2 => refKindT_any pv L x d (hX.later hd) h2 hsz fun d' h' => HF d' (bt hd h')
  clear hB hn hX ok hsz HF
  go_enter Tryz.func8, Tryz.ntmps8
  go_wp2_with (first
    | (go_at_call 25; refine (CK.out _ (bt HB.out hB2) q2).mono ?_; rintro e w4 ⟨rfl, hB4⟩)
    | (go_at_call 24; refine CC.out.mono ?_; rintro e w2 ⟨r, rfl, hr, hB2⟩; obtain ⟨c0, c1, c2, c3, c4, c5, c6⟩ := (HN.out.later hB2).at0; rcases hr with ⟨q1, rfl⟩ | ⟨q1, q2, rfl⟩ | ⟨q1, q2, rfl⟩))
  · exact bodyPost_ret (v := .tuple #[.int .i64 0, .int .i64 1]) (by simp [results, Tryz.results8, go_sem]) rfl ⟨0, 1, rfl, .inr ⟨fun h => by omega, rfl, rfl⟩, bt HB.out hB2⟩
  · exact bodyPost_ret (v := .tuple #[.int .i64 (kindE L x).1, .int .i64 (kindE L x).2]) (by simp [results, Tryz.results8, go_sem]) rfl ⟨_, _, rfl, .inl ⟨q1, q2, rfl, rfl⟩, bt (bt HB.out hB2) hB4⟩
  · exact bodyPost_ret (v := .tuple #[.int .i64 0, .int .i64 1]) (by simp [results, Tryz.results8, go_sem]) rfl ⟨0, 1, rfl, .inr ⟨fun h => q2 h.2, rfl, rfl⟩, bt HB.out hB2⟩
set_option maxRecDepth 100000 in
set_option maxHeartbeats 2000000 in
theorem refCond_calls (nv : Value) (R : Int → Int → Prop) (x : X) (w : World) (CK : ∀ d, Below w.heap.size w d → Calls Tryz.prog 8 #[nv, x.val] d fun e w' => ∃ K E, e = .returned (.tuple #[.int .i64 K, .int .i64 E]) ∧ R K E ∧ Below d.heap.size d w') :
    Calls Tryz.prog 12 #[nv, x.val] w fun e w' => ∃ K E, e = .returned (.int .i64 (condZ K E)) ∧ R K E ∧ Below w.heap.size w w' := by
  obtain ⟨A, hA, hB, hs, hn⟩ := one_box x w
  obtain ⟨a0, a1, a2, a3, a4, a5, a6⟩ := hn.at0
  have HB : Hid (Below w.heap.size w A) := hB
  have C : Hid (Calls Tryz.prog 8 _ A _) := CK A hB
  clear hB hn CK
  go_enter Tryz.func12, Tryz.ntmps12
  go_wp2_with (first | (go_at_call 8; refine C.out.mono ?_; rintro e w2 ⟨K, E, rfl, hr, hB2⟩; have HR : Hid (R K E) := hr; clear hr; by_cases q1 : E = 0))
  · rename_i h
    go_ret
    exact ⟨K, E, by simp at h; simp [condZ, q1, h], HR.out, bt HB.out hB2⟩
  · rename_i h
    go_ret
    exact ⟨K, E, by simp at h; simp [condZ, q1, h], HR.out, bt HB.out hB2⟩
  · go_ret
    exact ⟨K, E, by simp [condZ, q1], HR.out, bt HB.out hB2⟩
/-- What the document's New answers. -/
def RefNewIs (w : World) (a : Option Addr) (ns cs : Nat) (Q : Nat → Sch) (av : Option Addr) (nv cv : Nat) (V : Nat → ByteArray) (at_ : Option Addr) (nt ct : Nat) (T : Nat → ByteArray) (e : Ending) (w' : World) : Prop :=
  (newZ nv nt T ns Q = 0 ∧ nv = nt ∧ ns ≤ 16 ∧ (∀ j, j < nv → ∃ i, idx (fun i => (Q i).nm) (T j) ns = some i) ∧ ∃ p, e = .returned (.tuple #[.pointer (some ⟨p, 0, none⟩), .int .i64 0]) ∧ RefN w' p a ns cs Q av nv cv V at_ ct T ∧ Below w.heap.size w w') ∨
    (¬ newZ nv nt T ns Q = 0 ∧ e = .returned (.tuple #[.pointer none, .int .i64 (newZ nv nt T ns Q)]) ∧ Below w.heap.size w w')
set_option maxRecDepth 100000 in
set_option maxHeartbeats 4000000 in
theorem refNew_bad (a : Option Addr) (ns cs : Nat) (Q : Nat → Sch) (av : Option Addr) (nv cv : Nat) (at_ : Option Addr) (nt ct : Nat) (w : World) (H : Schs w a ns Q) (hb : ¬ (bookZ ns Q = 0 ∧ nv = nt)) :
    Calls Tryz.prog 5 #[.slice a ns cs, .slice av nv cv, .slice at_ nt ct] w fun e w' => e = .returned (.tuple #[.pointer none, .int .i64 1]) ∧ Below w.heap.size w w' := by
  have C : Hid (Calls Tryz.prog 17 _ w _) := refBook_any a ns cs Q w H
  clear H
  by_cases h : bookZ ns Q = 0
  · have hne : ((nv : Int) != (nt : Int)) = true := by simp; omega
    rw [h] at C
    clear h hb
    go_enter Tryz.func5, Tryz.ntmps5
    go_wp2_with (first | (go_at_call 17; refine C.out.mono ?_; rintro e w2 ⟨rfl, hB2⟩))
    exact bodyPost_ret (v := .tuple #[.pointer none, .int .i64 1]) (by simp [results, Tryz.results5, go_sem]) rfl ⟨rfl, hB2⟩
  · have h' : (bookZ ns Q != 0) = true := by simp [h]
    generalize bookZ ns Q = r at *
    clear hb
    go_enter Tryz.func5, Tryz.ntmps5
    go_wp2_with (first | (go_at_call 17; refine C.out.mono ?_; rintro e w2 ⟨rfl, hB2⟩))
    exact bodyPost_ret (v := .tuple #[.pointer none, .int .i64 1]) (by simp [results, Tryz.results5, go_sem]) rfl ⟨rfl, hB2⟩
set_option maxRecDepth 100000 in
set_option maxHeartbeats 4000000 in
theorem refNew_loop (a : Option Addr) (ns cs : Nat) (Q : Nat → Sch) (av : Option Addr) (nv cv : Nat) (V : Nat → ByteArray) (at_ : Option Addr) (ct : Nat) (T : Nat → ByteArray) (w : World) (H : Schs w a ns Q) (hV : Txs w av nv V) (hT : Txs w at_ nv T) (hm : nv ≤ 1048576) (hb : bookZ ns Q = 0) :
    Calls Tryz.prog 5 #[.slice a ns cs, .slice av nv cv, .slice at_ nv ct] w fun e w' => (lackB T ns Q nv = false ∧ ∃ p, e = .returned (.tuple #[.pointer (some ⟨p, 0, none⟩), .int .i64 0]) ∧ RefN w' p a ns cs Q av nv cv V at_ ct T ∧ Below w.heap.size w w') ∨ (lackB T ns Q nv = true ∧ e = .returned (.tuple #[.pointer none, .int .i64 6]) ∧ Below w.heap.size w w') := by
  have C := refBook_any a ns cs Q w H
  rw [hb] at C
  have HC : Hid (Calls Tryz.prog 17 _ w _) := C
  have HNS : Hid (ns ≤ 16) := (book_small hb).1
  have HS : Hid (Schs w a ns Q) := H
  have HV : Hid (Txs w av nv V) := hV
  have HT : Hid (Txs w at_ nv T) := hT
  clear C H hV hT hb
  go_enter Tryz.func5, Tryz.ntmps5
  go_wp2_with (first | (go_at_call 17; refine HC.out.mono ?_; rintro e w2 ⟨rfl, hB2⟩))
  go_loopw [8] (fun v wr => ∃ k : Nat, k ≤ nv ∧ v = .int .i64 k ∧ Hid (lackB T ns Q k = false) ∧ Below w.heap.size w wr) (fun v _ => nv - (intOf v).toNat)
  case atStart => exact ⟨0, Nat.zero_le _, rfl, rfl, hB2⟩
  case round =>
    obtain ⟨k, hk, rfl, HLK, hB⟩ := hrel
    by_cases hkn : k < nv
    · obtain ⟨b1, ot, rfl, hct⟩ := (HT.out.later hB) (by omega)
      have f1 := hct k hkn
      clear hct
      cases e : idx (fun i => (Q i).nm) (T k) ns with
      | none =>
        have CF : Hid (Calls Tryz.prog 18 #[.slice a ns cs, .string (T k)] wr _) := refFind_none a ns cs (fun i => (Q i).nm) (fun i => (Q i).v) (T k) wr (HS.out.later hB).1 (by have := HNS.out; omega) (idx_none _ _ _ e)
        have HE : Hid (idx (fun i => (Q i).nm) (T k) ns = none) := e
        clear e
        go_wp2_with (first | (go_at_call 18; refine CF.out.mono ?_; rintro e w3 ⟨rfl, hB3⟩))
        try rw [Exit.noGoto_ret]
        exact bodyPost_ret (v := .tuple #[.pointer none, .int .i64 6]) (by simp [results, Tryz.results5, go_sem]) rfl (.inr ⟨lackB_at HE.out hkn, rfl, bt hB hB3⟩)
      | some i =>
        obtain ⟨i1, i2, i3⟩ := idx_some _ _ _ _ e
        have CF : Hid (Calls Tryz.prog 18 #[.slice a ns cs, .string (T k)] wr _) := refFind_some a ns cs i (fun i => (Q i).nm) (fun i => (Q i).v) (T k) wr (HS.out.later hB).1 (by have := HNS.out; omega) i1 i2 i3
        have HL1 : Hid (lackB T ns Q (k + 1) = false) := by show lackB T ns Q (k + 1) = false; simp [lackB, HLK.out, e]
        clear e i1 i2 i3
        go_wp2_with (first | (go_at_call 18; refine CF.out.mono ?_; rintro e w3 ⟨rfl, hB3⟩))
        refine ⟨⟨k + 1, by omega, by simp, HL1, bt hB hB3⟩, ?_⟩
        simp [intOf]
        omega
    · obtain rfl : k = nv := by omega
      go_wp2
      have hB9 : Below wr.heap.size wr (wr.alloc (.cells #[.slice a ns cs, .slice av k cv, .slice at_ k ct] 61)) := (Below.refl _ _).alloc (Nat.le_refl _) _
      exact bodyPost_ret (v := .tuple #[.pointer (some ⟨wr.heap.size, 0, none⟩), .int .i64 0]) (by simp [results, Tryz.results5, go_sem]) rfl (.inl ⟨HLK.out, wr.heap.size, rfl, ⟨by rw [World.cell?_alloc_at _ _ _ _ rfl]; rfl, by rw [World.cell?_alloc_at _ _ _ _ rfl]; rfl, by rw [World.cell?_alloc_at _ _ _ _ rfl]; rfl, (HS.out.later hB).later hB9, (HV.out.later hB).later hB9, (HT.out.later hB).later hB9⟩, bt hB hB9⟩)
theorem refNew_any (a : Option Addr) (ns cs : Nat) (Q : Nat → Sch) (av : Option Addr) (nv cv : Nat) (V : Nat → ByteArray) (at_ : Option Addr) (nt ct : Nat) (T : Nat → ByteArray) (w : World) (H : Schs w a ns Q) (hV : Txs w av nv V) (hT : Txs w at_ nt T) (hm : nt ≤ 1048576) :
    Calls Tryz.prog 5 #[.slice a ns cs, .slice av nv cv, .slice at_ nt ct] w fun e w' => RefNewIs w a ns cs Q av nv cv V at_ nt ct T e w' := by
  by_cases hb : bookZ ns Q = 0 ∧ nv = nt
  · obtain ⟨hb, rfl⟩ := hb
    refine (refNew_loop a ns cs Q av nv cv V at_ ct T w H hV hT hm hb).mono ?_
    rintro e w' (⟨h1, h2⟩ | ⟨h1, h2⟩)
    · exact .inl ⟨by simp [newZ, hb, h1], rfl, (book_small hb).1, lackB_no h1, h2⟩
    · have e6 : newZ nv nv T ns Q = 6 := by simp [newZ, hb, h1]
      exact .inr ⟨by omega, by rw [e6]; exact h2⟩
  · refine (refNew_bad a ns cs Q av nv cv at_ nt ct w H hb).mono ?_
    rintro e w' h
    have e1 : newZ nv nt T ns Q = 1 := by rw [newZ, if_neg hb]
    exact .inr ⟨by omega, by rw [e1]; exact h⟩
/-- The program's names and the document's tell the same. -/
theorem look_same {nv : Nat} {V T : Nat → ByteArray} {ns : Nat} {Q S : Nat → Sch} (h : ∀ j, j < nv → ∃ i, idx (fun i => (Q i).nm) (T j) ns = some i ∧ SameS (Q i) (S j)) : lookS nv V S = lookN nv V T ns Q := by
  funext v f
  unfold lookS lookN
  cases e : idx V v nv with
  | none => rfl
  | some j =>
    obtain ⟨i, hi, h1, h2, h3, h4⟩ := h j (idx_some _ _ _ _ e).1
    simp only [hi, h2, h3, h4]
    cases idx (Q i).fn f (Q i).l <;> rfl
theorem type_same {nv : Nat} {V T : Nat → ByteArray} {ns : Nat} {Q S : Nat → Sch} (h : ∀ j, j < nv → ∃ i, idx (fun i => (Q i).nm) (T j) ns = some i ∧ SameS (Q i) (S j)) (s : ByteArray) :
    (match idx V s nv with | some i => (S i).nm | none => (⟨#[]⟩ : ByteArray)) = (match idx V s nv with | some i => T i | none => ⟨#[]⟩) := by
  cases e : idx V s nv with
  | none => rfl
  | some j =>
    obtain ⟨i, hi, h1, _⟩ := h j (idx_some _ _ _ _ e).1
    exact h1.trans (idx_some _ _ _ _ hi).2.1
end Go.Proofs.YtahlmlbfgijcpaaGreatDoor
