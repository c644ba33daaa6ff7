/-
  WireWrites' walk: any writes, one behind the other, up to any bound, by the program and by the document.
-/
import Derived.Test.YtabflledggocoaaRefWriter
import Derived.Test.YtabflledggocoaaWireAwake
import Derived.Test.YtabflledggocoaaArgs
import Derived.Deep.DeepCutAuto
namespace Go.Proofs.Ytabflledggocoaa
open Go.RowKit

/-- The program's writer and the document's, whose bytes lie apart. -/
structure Pair (w : World) (B p h q : Nat) (most : Int) (v u : Value) (l r : List Int) : Prop where
  one : Wr w B p h most v l
  two : Rw w B q most u r
  apart : ∀ k, v.ownBlock = some k → u.ownBlock ≠ some k
theorem Pair.later {w w' : World} {B p h q : Nat} {most : Int} {v u : Value} {l r : List Int} (P : Pair w B p h q most v u l r) (b : Below w.heap.size w w') : Pair w' B p h q most v u l r :=
  ⟨P.one.later b, P.two.later b, P.apart⟩
theorem block_ne {w : World} {i j : Nat} {c d : Array Value} {e f : TypeId} {x y : Nat × Nat} (h1 : w.heap[i]? = some (.cells c e x)) (h2 : w.heap[j]? = some (.cells d f y)) (h : e ≠ f) : i ≠ j := by
  intro k
  subst k
  rw [h1] at h2
  simp at h2
  exact h h2.2.1
theorem Pair.wire {w w' : World} {B p h q : Nat} {most : Int} {v u : Value} {l r x : List Int} {e : Ending} (P : Pair w B p h q most v u l r) (t : Wrote w B p h most v l x e w') :
    e = .returned (.int .i64 (putE most l x)) ∧ ∃ v', Pair w' B p h q most v' u (putL most l x) r := by
  obtain ⟨v', h1, h2, h3, h4⟩ := t
  refine ⟨h1, v', h2, P.two.kept ?_ ?_, ?_⟩
  · exact h3.block q P.two.lt (block_ne P.two.top P.one.hd.hld (by decide)) (fun e => own_apart P.one.hd.own P.two.top (by decide) e.symm)
  · intro k hk
    refine h3.block k (P.two.own.lt k hk).2 ?_ (fun e => P.apart k e.symm hk)
    intro e
    subst e
    exact own_apart P.two.own P.one.hd.hld (by decide) hk
  · intro k hk
    rcases h4 with h4 | h4
    · exact P.apart k (h4 ▸ hk)
    · intro hu
      have := (P.two.own.lt k hu).2
      have := h4 k hk
      omega
theorem Pair.ref {w w' : World} {B p h q : Nat} {most : Int} {v u : Value} {l r x : List Int} {e : Ending} (P : Pair w B p h q most v u l r) (t : RefWrote w B q most u r x e w') :
    e = .returned (.int .i64 (putE most r x)) ∧ ∃ u', Pair w' B p h q most v u' l (putL most r x) := by
  obtain ⟨u', h1, h2, h3, h4⟩ := t
  have hk : ∀ k, k < w.heap.size → k ≠ q → w'.heap[k]? = w.heap[k]? := fun k hk hq => h3.block k hk hq (by simp)
  refine ⟨h1, u', ⟨?_, P.one.hd.kept ?_ ?_, P.one.low, P.one.fit, P.one.m1⟩, h2, ?_⟩
  · rw [hk p P.one.lt (block_ne P.one.top P.two.top (by decide))]
    exact P.one.top
  · exact hk h P.one.hd.lt (block_ne P.one.hd.hld P.two.top (by decide))
  · intro k hv
    refine hk k (P.one.hd.own.lt k hv).2 ?_
    intro e
    subst e
    exact own_apart P.one.hd.own P.two.top (by decide) hv
  · intro k hv
    rcases h4 with h4 | h4
    · rw [h4]; exact P.apart k hv
    · intro hu
      have := (P.one.hd.own.lt k hv).2
      have := h4 k hu
      omega
theorem RefWrote.below {w0 w w' : World} {B q : Nat} {most : Int} {v : Value} {l x : List Int} {e : Ending} (H : Rw w B q most v l) (hB : B ≤ w.heap.size) (t : RefWrote w B q most v l x e w') (b : Below B w0 w) : Below B w0 w' := by
  obtain ⟨v', _, _, h3, _⟩ := t
  exact b.trans (h3.below hB H.low fun k hk => by cases hk)

set_option maxHeartbeats 2000000 in
set_option maxRecDepth 100000 in
theorem writes_no (most : Int) (a1 a2 a3 : Option Addr) (len1 cap1 len2 cap2 len3 cap3 : Nat) (w : World) (hno : most < 0 ∨ 65536 < most) :
    Calls Try.prog 3 #[.int .i64 most, .slice a1 len1 cap1, .slice a2 len2 cap2, .slice a3 len3 cap3] w fun e w' => e = .returned (.bool true) ∧ Below w.heap.size w w' := by
  have C1 : Hid (Calls Try.prog 6 _ _ _) := newWriter_no most w hno
  have C2 : Hid (Calls Try.prog 7 _ _ _) := refNewWriter_no most w hno
  clear hno
  go_enter Try.func3, Try.ntmps3
  go_wp2_with (first
    | (go_at_call 6; refine C1.out.mono ?_; rintro e w1 ⟨rfl, hw1⟩; replace hw1 := hw1.symm; subst hw1)
    | (go_at_call 7; refine C2.out.mono ?_; rintro e w2 ⟨rfl, hw2⟩; replace hw2 := hw2.symm; subst hw2)
    | (go_at_call 8; refine (awake_any _).mono ?_; rintro e w3 ⟨rfl, hB3⟩))
  go_ret
  exact ⟨rfl, hB3⟩

set_option maxHeartbeats 2000000 in
set_option maxRecDepth 100000 in
theorem writes_ok (most : Int) (a1 a2 a3 : Option Addr) (len1 cap1 len2 cap2 len3 cap3 : Nat) (z1 z2 : Nat → Int) (S : Nat → ByteArray) (w : World) (hm0 : 0 ≤ most) (hm1 : most ≤ 65536)
    (h1 : Ints .u8 w a1 len1 z1) (h2 : Ints .u64 w a2 len2 z2) (h3 : Strs 140737488351232 w a3 len3 S) :
    Calls Try.prog 3 #[.int .i64 most, .slice a1 len1 cap1, .slice a2 len2 cap2, .slice a3 len3 cap3] w fun e w' => e = .returned (.bool true) ∧ Below w.heap.size w w' := by
  have C1 : Hid (Calls Try.prog 6 _ _ _) := newWriter_ok most w.heap.size w hm0 hm1 (Nat.le_refl _)
  have H1 : Hid (Ints .u8 w a1 len1 z1) := h1
  have H2 : Hid (Ints .u64 w a2 len2 z2) := h2
  have H3 : Hid (Strs 140737488351232 w a3 len3 S) := h3
  clear h1 h2 h3
  go_enter Try.func3, Try.ntmps3
  go_wp2_with (first
    | (go_at_call 6; refine C1.out.mono ?_; rintro e w1 ⟨rfl, hW1, hB1⟩; have HW1 : Hid (Wr _ _ _ _ _ _ _) := hW1; clear hW1)
    | (go_at_call 7; refine (refNewWriter_ok most w.heap.size _ hm0 hm1 hB1.size).mono ?_; rintro e w2 ⟨rfl, hW2, hB2⟩; have HW2 : Hid (Rw _ _ _ _ _ _) := hW2; clear hW2))
  have hB0 : Below w.heap.size w w2 := hB1.trans (hB2.mono hB1.size)
  have HP0 : Hid (Pair w2 w.heap.size (w.heap.size + 1) w.heap.size w1.heap.size most _ _ [] []) := ⟨HW1.out.later hB2, HW2.out, fun k hk => by cases hk⟩
  generalize w1.heap.size = q at HP0 ⊢
  generalize w.heap.size + 1 = p at HP0 ⊢
  clear HW1 HW2 hB1 hB2 C1
  go_loopw [13] (fun kv wr => ∃ (k : Nat) (v u : Value) (l : List Int), kv = .int .i64 (k : Int) ∧ k ≤ 60 ∧ Hid (Pair wr w.heap.size p w.heap.size q most v u l l) ∧ Below w.heap.size w wr) (fun kv _ => 60 - (intOf kv).toNat)
  case atStart => exact ⟨0, _, _, [], rfl, by omega, HP0, hB0⟩
  case round =>
    obtain ⟨k, v, u, l, rfl, hk, HP, hB⟩ := hrel
    by_cases hc : (k : Int) < (len1 : Int) ∧ (k : Int) < (len2 : Int) ∧ (k : Int) < (len3 : Int) ∧ (k : Int) < 60
    · obtain ⟨q1, q2, q3, q4⟩ := hc
      obtain ⟨b1, o1, rfl, hc1⟩ := H1.out (by omega)
      obtain ⟨b2, o2, rfl, hc2⟩ := H2.out (by omega)
      obtain ⟨b3, o3, rfl, hc3⟩ := H3.out (by omega)
      obtain ⟨e1, r1⟩ := hc1 k (by omega)
      obtain ⟨e2, r2⟩ := hc2 k (by omega)
      obtain ⟨e3, r3⟩ := hc3 k (by omega)
      have d1 := wf_u8 r1
      have d2 := wf_u64 r2
      have f1 := cell_later e1 hB
      have f2 := cell_later e2 hB
      have f3 := cell_later e3 hB
      have E2 : Hid (w.cell? ⟨b2, o2 + k, none⟩ = _) := e2
      have E3 : Hid (w.cell? ⟨b3, o3 + k, none⟩ = _) := e3
      clear hc1 hc2 hc3 e1 e2 e3 r1 r2
      have ht : z1 k % 4 = 0 ∨ z1 k % 4 = 1 ∨ z1 k % 4 = 2 ∨ z1 k % 4 = 3 := by omega
      obtain ⟨N, hN⟩ := Int.eq_ofNat_of_zero_le d2.1
      have hN1 : N < 18446744073709551616 := by omega
      rw [hN] at f2 E2
      clear hN d2
      rcases ht with ht | ht | ht | ht
      · go_wp2_with (first
          | (go_at_call 9
             refine (wnum_any HP.out.one hB.size N hN1).mono ?_
             rintro e w3 t3
             have hB3 : Below w.heap.size w w3 := t3.below HP.out.one hB.size hB
             obtain ⟨rfl, v3, hP3⟩ := HP.out.wire t3
             have HP3 : Hid (Pair _ _ _ _ _ _ _ _ _ _) := hP3
             have g2 := cell_later E2.out hB3
             have g3 := cell_later E3.out hB3
             clear hP3 t3)
          | (go_at_call 10
             refine (rwnum_any HP3.out.two hB3.size N hN1).mono ?_
             rintro e w4 t4
             have hB4 : Below w.heap.size w w4 := t4.below HP3.out.two hB3.size hB3
             obtain ⟨rfl, v4, hP4⟩ := HP3.out.ref t4
             have HP4 : Hid (Pair _ _ _ _ _ _ _ _ _ _) := hP4
             clear hP4 t4))
        generalize putL most l (enc 10 N) = L at HP4
        generalize putE most l (enc 10 N) = E
        obtain ⟨a7, c7, hv7⟩ := own_slice HP4.out.two.own
        have hcB : ∀ w', Below w4.heap.size w4 w' → w'.cell? ⟨q, 0, none⟩ = some (.slice a7 L.length c7) := fun w' hb => by have := (HP4.out.two.later hb).cell0; rwa [hv7] at this
        have hconvB : ∀ w', Below w4.heap.size w4 w' → (convert 22 9 (.slice a7 L.length c7)).run Try.prog w' = .ok (.string (strOf L)) w' := fun w' hb => by have := conv_own (own_below HP4.out.two.own hb); rwa [hv7] at this
        have HcB : Hid (∀ w', Below w4.heap.size w4 w' → w'.cell? ⟨q, 0, none⟩ = some (.slice a7 L.length c7)) := hcB
        have HconvB : Hid (∀ w', Below w4.heap.size w4 w' → _) := hconvB
        clear hcB hconvB hv7
        refine wp_region_noPanic ?_
        refine wp_region_held_drew (S := fun w' => Below w4.heap.size w4 w') (by kernel_rfl) ((Below.refl _ _).drew) (fun hHeld => ?_)
        have hT : Below w4.heap.size w4 w4.drew := hHeld
        refine wpAnyH_take (i := 0) (oi := ⟨some 124, Op.move (Operand.tmp 14), 26, _, _, _⟩) (v := ?v0a) rfl (by kernel_rfl) (by kernel_rfl) (by kernel_rfl) (fun _ _ _ h => h) (Or.inl ⟨by rfl, ?hy0a⟩) hHeld ?rest0a
        case hy0a => intro w9 hSw; go_simp; (try with_reducible rfl)
        try simp only [Act.put, List.setIfInBounds_toArray, List.set_cons_zero, List.set_cons_succ]
        refine wpAnyH_take (i := 1) (oi := ⟨some 125, Op.move (Operand.tmp 15), 3, _, _, _⟩) (v := ?v1a) rfl (by kernel_rfl) (by kernel_rfl) (by kernel_rfl) (fun _ _ _ h => h) (Or.inl ⟨by rfl, ?hy1a⟩) hHeld ?rest1a
        case hy1a => intro w9 hSw; go_simp; (try with_reducible rfl)
        try simp only [Act.put, List.setIfInBounds_toArray, List.set_cons_zero, List.set_cons_succ]
        refine wpAnyH_take (i := 2) (oi := ⟨some 126, Op.binOp BinOp.neq 3 (Operand.tmp 124) (Operand.tmp 125) 3, 4, _, _, _⟩) (v := ?v2a) rfl (by kernel_rfl) (by kernel_rfl) (by kernel_rfl) (fun _ _ _ h => h) (Or.inl ⟨by rfl, ?hy2a⟩) hHeld ?rest2a
        case hy2a => intro w9 hSw; go_simp; (try with_reducible rfl)
        try simp only [Act.put, List.setIfInBounds_toArray, List.set_cons_zero, List.set_cons_succ]
        refine wpAnyH_take (i := 3) (oi := ⟨some 127, Op.move (Operand.tmp 126), 4, _, _, _⟩) (v := ?v3a) rfl (by kernel_rfl) (by kernel_rfl) (by kernel_rfl) (fun _ _ _ h => h) (Or.inl ⟨by rfl, ?hy3a⟩) hHeld ?rest3a
        case hy3a => intro w9 hSw; go_simp; (try with_reducible rfl)
        try simp only [Act.put, List.setIfInBounds_toArray, List.set_cons_zero, List.set_cons_succ]
        refine wpAnyH_take (i := 4) (oi := ⟨some 128, Op.move (Operand.tmp 9), 25, _, _, _⟩) (v := ?v4a) rfl (by kernel_rfl) (by kernel_rfl) (by kernel_rfl) (fun _ _ _ h => h) (Or.inl ⟨by rfl, ?hy4a⟩) hHeld ?rest4a
        case hy4a => intro w9 hSw; go_simp; (try with_reducible rfl)
        try simp only [Act.put, List.setIfInBounds_toArray, List.set_cons_zero, List.set_cons_succ]
        refine wpAnyH_take (i := 7) (oi := ⟨some 131, Op.move (Operand.tmp 11), 29, _, _, _⟩) (v := ?v7a) rfl (by kernel_rfl) (by kernel_rfl) (by kernel_rfl) (fun _ _ _ h => h) (Or.inl ⟨by rfl, ?hy7a⟩) hHeld ?rest7a
        case hy7a => intro w9 hSw; go_simp; (try with_reducible rfl)
        try simp only [Act.put, List.setIfInBounds_toArray, List.set_cons_zero, List.set_cons_succ]
        refine wpAnyH_take (i := 8) (oi := ⟨some 132, Op.nilCheck (Operand.tmp 131), 0, _, _, _⟩) (v := ?v8a) rfl (by kernel_rfl) (by kernel_rfl) (by kernel_rfl) (fun _ _ _ h => h) (Or.inl ⟨by rfl, ?hy8a⟩) hHeld ?rest8a
        case hy8a => intro w9 hSw; go_simp; (try with_reducible rfl)
        try simp only [Act.put, List.setIfInBounds_toArray, List.set_cons_zero, List.set_cons_succ]
        refine wpAnyH_take (i := 9) (oi := ⟨some 133, Op.fieldAddr 44 (Operand.tmp 132) 0, 0, _, _, _⟩) (v := ?v9a) rfl (by kernel_rfl) (by kernel_rfl) (by kernel_rfl) (fun _ _ _ h => h) (Or.inl ⟨by rfl, ?hy9a⟩) hHeld ?rest9a
        case hy9a => intro w9 hSw; go_simp; (try with_reducible rfl)
        try simp only [Act.put, List.setIfInBounds_toArray, List.set_cons_zero, List.set_cons_succ]
        refine wpAnyH_take (i := 10) (oi := ⟨some 134, Op.load 22 (Operand.tmp 133), 22, _, _, _⟩) (v := ?v10a) rfl (by kernel_rfl) (by kernel_rfl) (by kernel_rfl) (fun _ _ _ h => h) (Or.inl ⟨by rfl, ?hy10a⟩) hHeld ?rest10a
        case hy10a => intro w9 hSw; have cBw := HcB.out _ hSw; go_simp; (try with_reducible rfl)
        try simp only [Act.put, List.setIfInBounds_toArray, List.set_cons_zero, List.set_cons_succ]
        refine wpAnyH_take (i := 11) (oi := ⟨some 135, Op.convert 22 9 (Operand.tmp 134), 9, _, _, _⟩) (v := ?v11a) rfl (by kernel_rfl) (by kernel_rfl) (by kernel_rfl) (fun _ _ _ h => h) (Or.inl ⟨by rfl, ?hy11a⟩) hHeld ?rest11a
        case hy11a => intro w9 hSw; have cBw := HconvB.out _ hSw; go_simp; (try with_reducible rfl)
        try simp only [Act.put, List.setIfInBounds_toArray, List.set_cons_zero, List.set_cons_succ]
        refine wpAnyH_ready (rs := [5]) (by kernel_rfl) (by simp) ?_
        refine AllReadyH.cons (o := ⟨some 129, Op.call { callee := Callee.value (Operand.func 17), args := #[Operand.tmp 128], argTypes := #[25] }, 22, _, _, _⟩) rfl (fun K hK => ?_) AllReadyH.nil
        go_simp
        refine (wdone_any (HP4.out.one.later hHeld)).mono ?_
        rintro e x5 ⟨v5, rfl, ho5, hN5⟩
        go_wp2_with fail
        have hT5 : Below w4.heap.size w4 x5 := hT.trans (hN5.mono hT.size)
        refine hK.out _ _ (hHeld.trans (hN5.mono hHeld.size)) (fun _ => held_up (S' := fun w' => Below x5.heap.size x5 w') (fun w' h' => (hHeld.trans (hN5.mono hHeld.size)).trans (h'.mono (Nat.le_trans hHeld.size hN5.size))) _ _ _ _ ?_)
        clear hK K hHeld hT
        have hT : Below w4.heap.size w4 x5 := hT5
        have hHeld : Below x5.heap.size x5 x5 := Below.refl _ _
        clear hT5 hN5
        try simp only [Act.put, List.setIfInBounds_toArray, List.set_cons_zero, List.set_cons_succ]
        have hconv5 : ∀ w', Below x5.heap.size x5 w' → (convert 22 9 v5).run Try.prog w' = .ok (.string (strOf L)) w' := fun w' hb => conv_own (own_below ho5 hb)
        have Hconv5 : Hid (∀ w', Below x5.heap.size x5 w' → _) := hconv5
        clear hconv5 ho5
        refine wpAnyH_take (i := 6) (oi := ⟨some 130, Op.convert 22 9 (Operand.tmp 129), 9, _, _, _⟩) (v := ?v6a) rfl (by kernel_rfl) (by kernel_rfl) (by kernel_rfl) (fun _ _ _ h => h) (Or.inl ⟨by rfl, ?hy6a⟩) hHeld ?rest6a
        case hy6a => intro w9 hSw; have c5w := Hconv5.out _ hSw; go_simp; (try with_reducible rfl)
        try simp only [Act.put, List.setIfInBounds_toArray, List.set_cons_zero, List.set_cons_succ]
        refine wpAnyH_take (i := 12) (oi := ⟨some 136, Op.binOp BinOp.neq 9 (Operand.tmp 130) (Operand.tmp 135) 9, 4, _, _, _⟩) (v := ?v12a) rfl (by kernel_rfl) (by kernel_rfl) (by kernel_rfl) (fun _ _ _ h => h) (Or.inl ⟨by rfl, ?hy12a⟩) hHeld ?rest12a
        case hy12a => intro w9 hSw; go_simp; (try with_reducible rfl)
        try simp only [Act.put, List.setIfInBounds_toArray, List.set_cons_zero, List.set_cons_succ]
        refine wpAnyH_take (i := 13) (oi := ⟨some 137, Op.pick (Operand.tmp 127) (Operand.const (Value.bool true)) (Operand.tmp 136), 4, _, _, _⟩) (v := ?v13a) rfl (by kernel_rfl) (by kernel_rfl) (by kernel_rfl) (fun _ _ _ h => h) (Or.inl ⟨by rfl, ?hy13a⟩) hHeld ?rest13a
        case hy13a => intro w9 hSw; go_simp; (try with_reducible rfl)
        try simp only [Act.put, List.setIfInBounds_toArray, List.set_cons_zero, List.set_cons_succ]
        refine wpAnyH_done (by kernel_rfl) ?_ _
        refine NoPanic.normal ?_
        go_wp2_with fail
        go_roundw
        case rel => exact ⟨k + 1, _, _, L, by go_num, by omega, HP4.out.later hT, hB4.trans (hT.mono hB4.size)⟩
        case measure => simp [intOf]; omega
      · obtain ⟨y, hy⟩ : ∃ y, wrap64 (N : Int) = y := ⟨_, rfl⟩
        have hy0 : -9223372036854775808 ≤ y ∧ y < 9223372036854775808 := by rw [← hy]; unfold wrap64; omega
        go_wp2_with (first
          | (go_at_call 11
             refine (wint_any HP.out.one hB.size y hy0.1 hy0.2).mono ?_
             rintro e w3 t3
             have hB3 : Below w.heap.size w w3 := t3.below HP.out.one hB.size hB
             obtain ⟨rfl, v3, hP3⟩ := HP.out.wire t3
             have HP3 : Hid (Pair _ _ _ _ _ _ _ _ _ _) := hP3
             have g2 := cell_later E2.out hB3
             have g3 := cell_later E3.out hB3
             clear hP3 t3)
          | (go_at_call 12
             refine (rwint_any HP3.out.two hB3.size y hy0.1 hy0.2).mono ?_
             rintro e w4 t4
             have hB4 : Below w.heap.size w w4 := t4.below HP3.out.two hB3.size hB3
             obtain ⟨rfl, v4, hP4⟩ := HP3.out.ref t4
             have HP4 : Hid (Pair _ _ _ _ _ _ _ _ _ _) := hP4
             clear hP4 t4))
        generalize putL most l (enc 10 (turnZ y).toNat) = L at HP4
        generalize putE most l (enc 10 (turnZ y).toNat) = E
        obtain ⟨a7, c7, hv7⟩ := own_slice HP4.out.two.own
        have hcB : ∀ w', Below w4.heap.size w4 w' → w'.cell? ⟨q, 0, none⟩ = some (.slice a7 L.length c7) := fun w' hb => by have := (HP4.out.two.later hb).cell0; rwa [hv7] at this
        have hconvB : ∀ w', Below w4.heap.size w4 w' → (convert 22 9 (.slice a7 L.length c7)).run Try.prog w' = .ok (.string (strOf L)) w' := fun w' hb => by have := conv_own (own_below HP4.out.two.own hb); rwa [hv7] at this
        have HcB : Hid (∀ w', Below w4.heap.size w4 w' → w'.cell? ⟨q, 0, none⟩ = some (.slice a7 L.length c7)) := hcB
        have HconvB : Hid (∀ w', Below w4.heap.size w4 w' → _) := hconvB
        clear hcB hconvB hv7
        refine wp_region_noPanic ?_
        refine wp_region_held_drew (S := fun w' => Below w4.heap.size w4 w') (by kernel_rfl) ((Below.refl _ _).drew) (fun hHeld => ?_)
        have hT : Below w4.heap.size w4 w4.drew := hHeld
        refine wpAnyH_take (i := 0) (oi := ⟨some 124, Op.move (Operand.tmp 14), 26, _, _, _⟩) (v := ?v0b) rfl (by kernel_rfl) (by kernel_rfl) (by kernel_rfl) (fun _ _ _ h => h) (Or.inl ⟨by rfl, ?hy0b⟩) hHeld ?rest0b
        case hy0b => intro w9 hSw; go_simp; (try with_reducible rfl)
        try simp only [Act.put, List.setIfInBounds_toArray, List.set_cons_zero, List.set_cons_succ]
        refine wpAnyH_take (i := 1) (oi := ⟨some 125, Op.move (Operand.tmp 15), 3, _, _, _⟩) (v := ?v1b) rfl (by kernel_rfl) (by kernel_rfl) (by kernel_rfl) (fun _ _ _ h => h) (Or.inl ⟨by rfl, ?hy1b⟩) hHeld ?rest1b
        case hy1b => intro w9 hSw; go_simp; (try with_reducible rfl)
        try simp only [Act.put, List.setIfInBounds_toArray, List.set_cons_zero, List.set_cons_succ]
        refine wpAnyH_take (i := 2) (oi := ⟨some 126, Op.binOp BinOp.neq 3 (Operand.tmp 124) (Operand.tmp 125) 3, 4, _, _, _⟩) (v := ?v2b) rfl (by kernel_rfl) (by kernel_rfl) (by kernel_rfl) (fun _ _ _ h => h) (Or.inl ⟨by rfl, ?hy2b⟩) hHeld ?rest2b
        case hy2b => intro w9 hSw; go_simp; (try with_reducible rfl)
        try simp only [Act.put, List.setIfInBounds_toArray, List.set_cons_zero, List.set_cons_succ]
        refine wpAnyH_take (i := 3) (oi := ⟨some 127, Op.move (Operand.tmp 126), 4, _, _, _⟩) (v := ?v3b) rfl (by kernel_rfl) (by kernel_rfl) (by kernel_rfl) (fun _ _ _ h => h) (Or.inl ⟨by rfl, ?hy3b⟩) hHeld ?rest3b
        case hy3b => intro w9 hSw; go_simp; (try with_reducible rfl)
        try simp only [Act.put, List.setIfInBounds_toArray, List.set_cons_zero, List.set_cons_succ]
        refine wpAnyH_take (i := 4) (oi := ⟨some 128, Op.move (Operand.tmp 9), 25, _, _, _⟩) (v := ?v4b) rfl (by kernel_rfl) (by kernel_rfl) (by kernel_rfl) (fun _ _ _ h => h) (Or.inl ⟨by rfl, ?hy4b⟩) hHeld ?rest4b
        case hy4b => intro w9 hSw; go_simp; (try with_reducible rfl)
        try simp only [Act.put, List.setIfInBounds_toArray, List.set_cons_zero, List.set_cons_succ]
        refine wpAnyH_take (i := 7) (oi := ⟨some 131, Op.move (Operand.tmp 11), 29, _, _, _⟩) (v := ?v7b) rfl (by kernel_rfl) (by kernel_rfl) (by kernel_rfl) (fun _ _ _ h => h) (Or.inl ⟨by rfl, ?hy7b⟩) hHeld ?rest7b
        case hy7b => intro w9 hSw; go_simp; (try with_reducible rfl)
        try simp only [Act.put, List.setIfInBounds_toArray, List.set_cons_zero, List.set_cons_succ]
        refine wpAnyH_take (i := 8) (oi := ⟨some 132, Op.nilCheck (Operand.tmp 131), 0, _, _, _⟩) (v := ?v8b) rfl (by kernel_rfl) (by kernel_rfl) (by kernel_rfl) (fun _ _ _ h => h) (Or.inl ⟨by rfl, ?hy8b⟩) hHeld ?rest8b
        case hy8b => intro w9 hSw; go_simp; (try with_reducible rfl)
        try simp only [Act.put, List.setIfInBounds_toArray, List.set_cons_zero, List.set_cons_succ]
        refine wpAnyH_take (i := 9) (oi := ⟨some 133, Op.fieldAddr 44 (Operand.tmp 132) 0, 0, _, _, _⟩) (v := ?v9b) rfl (by kernel_rfl) (by kernel_rfl) (by kernel_rfl) (fun _ _ _ h => h) (Or.inl ⟨by rfl, ?hy9b⟩) hHeld ?rest9b
        case hy9b => intro w9 hSw; go_simp; (try with_reducible rfl)
        try simp only [Act.put, List.setIfInBounds_toArray, List.set_cons_zero, List.set_cons_succ]
        refine wpAnyH_take (i := 10) (oi := ⟨some 134, Op.load 22 (Operand.tmp 133), 22, _, _, _⟩) (v := ?v10b) rfl (by kernel_rfl) (by kernel_rfl) (by kernel_rfl) (fun _ _ _ h => h) (Or.inl ⟨by rfl, ?hy10b⟩) hHeld ?rest10b
        case hy10b => intro w9 hSw; have cBw := HcB.out _ hSw; go_simp; (try with_reducible rfl)
        try simp only [Act.put, List.setIfInBounds_toArray, List.set_cons_zero, List.set_cons_succ]
        refine wpAnyH_take (i := 11) (oi := ⟨some 135, Op.convert 22 9 (Operand.tmp 134), 9, _, _, _⟩) (v := ?v11b) rfl (by kernel_rfl) (by kernel_rfl) (by kernel_rfl) (fun _ _ _ h => h) (Or.inl ⟨by rfl, ?hy11b⟩) hHeld ?rest11b
        case hy11b => intro w9 hSw; have cBw := HconvB.out _ hSw; go_simp; (try with_reducible rfl)
        try simp only [Act.put, List.setIfInBounds_toArray, List.set_cons_zero, List.set_cons_succ]
        refine wpAnyH_ready (rs := [5]) (by kernel_rfl) (by simp) ?_
        refine AllReadyH.cons (o := ⟨some 129, Op.call { callee := Callee.value (Operand.func 17), args := #[Operand.tmp 128], argTypes := #[25] }, 22, _, _, _⟩) rfl (fun K hK => ?_) AllReadyH.nil
        go_simp
        refine (wdone_any (HP4.out.one.later hHeld)).mono ?_
        rintro e x5 ⟨v5, rfl, ho5, hN5⟩
        go_wp2_with fail
        have hT5 : Below w4.heap.size w4 x5 := hT.trans (hN5.mono hT.size)
        refine hK.out _ _ (hHeld.trans (hN5.mono hHeld.size)) (fun _ => held_up (S' := fun w' => Below x5.heap.size x5 w') (fun w' h' => (hHeld.trans (hN5.mono hHeld.size)).trans (h'.mono (Nat.le_trans hHeld.size hN5.size))) _ _ _ _ ?_)
        clear hK K hHeld hT
        have hT : Below w4.heap.size w4 x5 := hT5
        have hHeld : Below x5.heap.size x5 x5 := Below.refl _ _
        clear hT5 hN5
        try simp only [Act.put, List.setIfInBounds_toArray, List.set_cons_zero, List.set_cons_succ]
        have hconv5 : ∀ w', Below x5.heap.size x5 w' → (convert 22 9 v5).run Try.prog w' = .ok (.string (strOf L)) w' := fun w' hb => conv_own (own_below ho5 hb)
        have Hconv5 : Hid (∀ w', Below x5.heap.size x5 w' → _) := hconv5
        clear hconv5 ho5
        refine wpAnyH_take (i := 6) (oi := ⟨some 130, Op.convert 22 9 (Operand.tmp 129), 9, _, _, _⟩) (v := ?v6b) rfl (by kernel_rfl) (by kernel_rfl) (by kernel_rfl) (fun _ _ _ h => h) (Or.inl ⟨by rfl, ?hy6b⟩) hHeld ?rest6b
        case hy6b => intro w9 hSw; have c5w := Hconv5.out _ hSw; go_simp; (try with_reducible rfl)
        try simp only [Act.put, List.setIfInBounds_toArray, List.set_cons_zero, List.set_cons_succ]
        refine wpAnyH_take (i := 12) (oi := ⟨some 136, Op.binOp BinOp.neq 9 (Operand.tmp 130) (Operand.tmp 135) 9, 4, _, _, _⟩) (v := ?v12b) rfl (by kernel_rfl) (by kernel_rfl) (by kernel_rfl) (fun _ _ _ h => h) (Or.inl ⟨by rfl, ?hy12b⟩) hHeld ?rest12b
        case hy12b => intro w9 hSw; go_simp; (try with_reducible rfl)
        try simp only [Act.put, List.setIfInBounds_toArray, List.set_cons_zero, List.set_cons_succ]
        refine wpAnyH_take (i := 13) (oi := ⟨some 137, Op.pick (Operand.tmp 127) (Operand.const (Value.bool true)) (Operand.tmp 136), 4, _, _, _⟩) (v := ?v13b) rfl (by kernel_rfl) (by kernel_rfl) (by kernel_rfl) (fun _ _ _ h => h) (Or.inl ⟨by rfl, ?hy13b⟩) hHeld ?rest13b
        case hy13b => intro w9 hSw; go_simp; (try with_reducible rfl)
        try simp only [Act.put, List.setIfInBounds_toArray, List.set_cons_zero, List.set_cons_succ]
        refine wpAnyH_done (by kernel_rfl) ?_ _
        refine NoPanic.normal ?_
        go_wp2_with fail
        go_roundw
        case rel => exact ⟨k + 1, _, _, L, by go_num, by omega, HP4.out.later hT, hB4.trans (hT.mono hB4.size)⟩
        case measure => simp [intOf]; omega
      · go_wp2_with (first
          | (go_at_call 13
             refine (wtext_any HP.out.one hB.size (S k) (by omega)).mono ?_
             rintro e w3 t3
             have hB3 : Below w.heap.size w w3 := t3.below HP.out.one hB.size hB
             obtain ⟨rfl, v3, hP3⟩ := HP.out.wire t3
             have HP3 : Hid (Pair _ _ _ _ _ _ _ _ _ _) := hP3
             have g2 := cell_later E2.out hB3
             have g3 := cell_later E3.out hB3
             clear hP3 t3)
          | (go_at_call 14
             refine (rwtext_any HP3.out.two hB3.size (S k) (by omega)).mono ?_
             rintro e w4 t4
             have hB4 : Below w.heap.size w w4 := t4.below HP3.out.two hB3.size hB3
             obtain ⟨rfl, v4, hP4⟩ := HP3.out.ref t4
             have HP4 : Hid (Pair _ _ _ _ _ _ _ _ _ _) := hP4
             clear hP4 t4))
        generalize putL most l (enc 10 (S k).size ++ bytesS (S k)) = L at HP4
        generalize putE most l (enc 10 (S k).size ++ bytesS (S k)) = E
        obtain ⟨a7, c7, hv7⟩ := own_slice HP4.out.two.own
        have hcB : ∀ w', Below w4.heap.size w4 w' → w'.cell? ⟨q, 0, none⟩ = some (.slice a7 L.length c7) := fun w' hb => by have := (HP4.out.two.later hb).cell0; rwa [hv7] at this
        have hconvB : ∀ w', Below w4.heap.size w4 w' → (convert 22 9 (.slice a7 L.length c7)).run Try.prog w' = .ok (.string (strOf L)) w' := fun w' hb => by have := conv_own (own_below HP4.out.two.own hb); rwa [hv7] at this
        have HcB : Hid (∀ w', Below w4.heap.size w4 w' → w'.cell? ⟨q, 0, none⟩ = some (.slice a7 L.length c7)) := hcB
        have HconvB : Hid (∀ w', Below w4.heap.size w4 w' → _) := hconvB
        clear hcB hconvB hv7
        refine wp_region_noPanic ?_
        refine wp_region_held_drew (S := fun w' => Below w4.heap.size w4 w') (by kernel_rfl) ((Below.refl _ _).drew) (fun hHeld => ?_)
        have hT : Below w4.heap.size w4 w4.drew := hHeld
        refine wpAnyH_take (i := 0) (oi := ⟨some 124, Op.move (Operand.tmp 14), 26, _, _, _⟩) (v := ?v0c) rfl (by kernel_rfl) (by kernel_rfl) (by kernel_rfl) (fun _ _ _ h => h) (Or.inl ⟨by rfl, ?hy0c⟩) hHeld ?rest0c
        case hy0c => intro w9 hSw; go_simp; (try with_reducible rfl)
        try simp only [Act.put, List.setIfInBounds_toArray, List.set_cons_zero, List.set_cons_succ]
        refine wpAnyH_take (i := 1) (oi := ⟨some 125, Op.move (Operand.tmp 15), 3, _, _, _⟩) (v := ?v1c) rfl (by kernel_rfl) (by kernel_rfl) (by kernel_rfl) (fun _ _ _ h => h) (Or.inl ⟨by rfl, ?hy1c⟩) hHeld ?rest1c
        case hy1c => intro w9 hSw; go_simp; (try with_reducible rfl)
        try simp only [Act.put, List.setIfInBounds_toArray, List.set_cons_zero, List.set_cons_succ]
        refine wpAnyH_take (i := 2) (oi := ⟨some 126, Op.binOp BinOp.neq 3 (Operand.tmp 124) (Operand.tmp 125) 3, 4, _, _, _⟩) (v := ?v2c) rfl (by kernel_rfl) (by kernel_rfl) (by kernel_rfl) (fun _ _ _ h => h) (Or.inl ⟨by rfl, ?hy2c⟩) hHeld ?rest2c
        case hy2c => intro w9 hSw; go_simp; (try with_reducible rfl)
        try simp only [Act.put, List.setIfInBounds_toArray, List.set_cons_zero, List.set_cons_succ]
        refine wpAnyH_take (i := 3) (oi := ⟨some 127, Op.move (Operand.tmp 126), 4, _, _, _⟩) (v := ?v3c) rfl (by kernel_rfl) (by kernel_rfl) (by kernel_rfl) (fun _ _ _ h => h) (Or.inl ⟨by rfl, ?hy3c⟩) hHeld ?rest3c
        case hy3c => intro w9 hSw; go_simp; (try with_reducible rfl)
        try simp only [Act.put, List.setIfInBounds_toArray, List.set_cons_zero, List.set_cons_succ]
        refine wpAnyH_take (i := 4) (oi := ⟨some 128, Op.move (Operand.tmp 9), 25, _, _, _⟩) (v := ?v4c) rfl (by kernel_rfl) (by kernel_rfl) (by kernel_rfl) (fun _ _ _ h => h) (Or.inl ⟨by rfl, ?hy4c⟩) hHeld ?rest4c
        case hy4c => intro w9 hSw; go_simp; (try with_reducible rfl)
        try simp only [Act.put, List.setIfInBounds_toArray, List.set_cons_zero, List.set_cons_succ]
        refine wpAnyH_take (i := 7) (oi := ⟨some 131, Op.move (Operand.tmp 11), 29, _, _, _⟩) (v := ?v7c) rfl (by kernel_rfl) (by kernel_rfl) (by kernel_rfl) (fun _ _ _ h => h) (Or.inl ⟨by rfl, ?hy7c⟩) hHeld ?rest7c
        case hy7c => intro w9 hSw; go_simp; (try with_reducible rfl)
        try simp only [Act.put, List.setIfInBounds_toArray, List.set_cons_zero, List.set_cons_succ]
        refine wpAnyH_take (i := 8) (oi := ⟨some 132, Op.nilCheck (Operand.tmp 131), 0, _, _, _⟩) (v := ?v8c) rfl (by kernel_rfl) (by kernel_rfl) (by kernel_rfl) (fun _ _ _ h => h) (Or.inl ⟨by rfl, ?hy8c⟩) hHeld ?rest8c
        case hy8c => intro w9 hSw; go_simp; (try with_reducible rfl)
        try simp only [Act.put, List.setIfInBounds_toArray, List.set_cons_zero, List.set_cons_succ]
        refine wpAnyH_take (i := 9) (oi := ⟨some 133, Op.fieldAddr 44 (Operand.tmp 132) 0, 0, _, _, _⟩) (v := ?v9c) rfl (by kernel_rfl) (by kernel_rfl) (by kernel_rfl) (fun _ _ _ h => h) (Or.inl ⟨by rfl, ?hy9c⟩) hHeld ?rest9c
        case hy9c => intro w9 hSw; go_simp; (try with_reducible rfl)
        try simp only [Act.put, List.setIfInBounds_toArray, List.set_cons_zero, List.set_cons_succ]
        refine wpAnyH_take (i := 10) (oi := ⟨some 134, Op.load 22 (Operand.tmp 133), 22, _, _, _⟩) (v := ?v10c) rfl (by kernel_rfl) (by kernel_rfl) (by kernel_rfl) (fun _ _ _ h => h) (Or.inl ⟨by rfl, ?hy10c⟩) hHeld ?rest10c
        case hy10c => intro w9 hSw; have cBw := HcB.out _ hSw; go_simp; (try with_reducible rfl)
        try simp only [Act.put, List.setIfInBounds_toArray, List.set_cons_zero, List.set_cons_succ]
        refine wpAnyH_take (i := 11) (oi := ⟨some 135, Op.convert 22 9 (Operand.tmp 134), 9, _, _, _⟩) (v := ?v11c) rfl (by kernel_rfl) (by kernel_rfl) (by kernel_rfl) (fun _ _ _ h => h) (Or.inl ⟨by rfl, ?hy11c⟩) hHeld ?rest11c
        case hy11c => intro w9 hSw; have cBw := HconvB.out _ hSw; go_simp; (try with_reducible rfl)
        try simp only [Act.put, List.setIfInBounds_toArray, List.set_cons_zero, List.set_cons_succ]
        refine wpAnyH_ready (rs := [5]) (by kernel_rfl) (by simp) ?_
        refine AllReadyH.cons (o := ⟨some 129, Op.call { callee := Callee.value (Operand.func 17), args := #[Operand.tmp 128], argTypes := #[25] }, 22, _, _, _⟩) rfl (fun K hK => ?_) AllReadyH.nil
        go_simp
        refine (wdone_any (HP4.out.one.later hHeld)).mono ?_
        rintro e x5 ⟨v5, rfl, ho5, hN5⟩
        go_wp2_with fail
        have hT5 : Below w4.heap.size w4 x5 := hT.trans (hN5.mono hT.size)
        refine hK.out _ _ (hHeld.trans (hN5.mono hHeld.size)) (fun _ => held_up (S' := fun w' => Below x5.heap.size x5 w') (fun w' h' => (hHeld.trans (hN5.mono hHeld.size)).trans (h'.mono (Nat.le_trans hHeld.size hN5.size))) _ _ _ _ ?_)
        clear hK K hHeld hT
        have hT : Below w4.heap.size w4 x5 := hT5
        have hHeld : Below x5.heap.size x5 x5 := Below.refl _ _
        clear hT5 hN5
        try simp only [Act.put, List.setIfInBounds_toArray, List.set_cons_zero, List.set_cons_succ]
        have hconv5 : ∀ w', Below x5.heap.size x5 w' → (convert 22 9 v5).run Try.prog w' = .ok (.string (strOf L)) w' := fun w' hb => conv_own (own_below ho5 hb)
        have Hconv5 : Hid (∀ w', Below x5.heap.size x5 w' → _) := hconv5
        clear hconv5 ho5
        refine wpAnyH_take (i := 6) (oi := ⟨some 130, Op.convert 22 9 (Operand.tmp 129), 9, _, _, _⟩) (v := ?v6c) rfl (by kernel_rfl) (by kernel_rfl) (by kernel_rfl) (fun _ _ _ h => h) (Or.inl ⟨by rfl, ?hy6c⟩) hHeld ?rest6c
        case hy6c => intro w9 hSw; have c5w := Hconv5.out _ hSw; go_simp; (try with_reducible rfl)
        try simp only [Act.put, List.setIfInBounds_toArray, List.set_cons_zero, List.set_cons_succ]
        refine wpAnyH_take (i := 12) (oi := ⟨some 136, Op.binOp BinOp.neq 9 (Operand.tmp 130) (Operand.tmp 135) 9, 4, _, _, _⟩) (v := ?v12c) rfl (by kernel_rfl) (by kernel_rfl) (by kernel_rfl) (fun _ _ _ h => h) (Or.inl ⟨by rfl, ?hy12c⟩) hHeld ?rest12c
        case hy12c => intro w9 hSw; go_simp; (try with_reducible rfl)
        try simp only [Act.put, List.setIfInBounds_toArray, List.set_cons_zero, List.set_cons_succ]
        refine wpAnyH_take (i := 13) (oi := ⟨some 137, Op.pick (Operand.tmp 127) (Operand.const (Value.bool true)) (Operand.tmp 136), 4, _, _, _⟩) (v := ?v13c) rfl (by kernel_rfl) (by kernel_rfl) (by kernel_rfl) (fun _ _ _ h => h) (Or.inl ⟨by rfl, ?hy13c⟩) hHeld ?rest13c
        case hy13c => intro w9 hSw; go_simp; (try with_reducible rfl)
        try simp only [Act.put, List.setIfInBounds_toArray, List.set_cons_zero, List.set_cons_succ]
        refine wpAnyH_done (by kernel_rfl) ?_ _
        refine NoPanic.normal ?_
        go_wp2_with fail
        go_roundw
        case rel => exact ⟨k + 1, _, _, L, by go_num, by omega, HP4.out.later hT, hB4.trans (hT.mono hB4.size)⟩
        case measure => simp [intOf]; omega
      · obtain ⟨y, hy⟩ : ∃ y, (N : Int) % 256 = y := ⟨_, rfl⟩
        have hy0 : 0 ≤ y ∧ y ≤ 255 := by omega
        go_wp2_with (first
          | (go_at_call 15
             refine (wbyte_any HP.out.one hB.size y hy0.1 hy0.2).mono ?_
             rintro e w3 t3
             have hB3 : Below w.heap.size w w3 := t3.below HP.out.one hB.size hB
             obtain ⟨rfl, v3, hP3⟩ := HP.out.wire t3
             have HP3 : Hid (Pair _ _ _ _ _ _ _ _ _ _) := hP3
             have g2 := cell_later E2.out hB3
             have g3 := cell_later E3.out hB3
             clear hP3 t3)
          | (go_at_call 16
             refine (rwbyte_any HP3.out.two hB3.size y hy0.1 hy0.2).mono ?_
             rintro e w4 t4
             have hB4 : Below w.heap.size w w4 := t4.below HP3.out.two hB3.size hB3
             obtain ⟨rfl, v4, hP4⟩ := HP3.out.ref t4
             have HP4 : Hid (Pair _ _ _ _ _ _ _ _ _ _) := hP4
             clear hP4 t4))
        generalize putL most l ([y]) = L at HP4
        generalize putE most l ([y]) = E
        obtain ⟨a7, c7, hv7⟩ := own_slice HP4.out.two.own
        have hcB : ∀ w', Below w4.heap.size w4 w' → w'.cell? ⟨q, 0, none⟩ = some (.slice a7 L.length c7) := fun w' hb => by have := (HP4.out.two.later hb).cell0; rwa [hv7] at this
        have hconvB : ∀ w', Below w4.heap.size w4 w' → (convert 22 9 (.slice a7 L.length c7)).run Try.prog w' = .ok (.string (strOf L)) w' := fun w' hb => by have := conv_own (own_below HP4.out.two.own hb); rwa [hv7] at this
        have HcB : Hid (∀ w', Below w4.heap.size w4 w' → w'.cell? ⟨q, 0, none⟩ = some (.slice a7 L.length c7)) := hcB
        have HconvB : Hid (∀ w', Below w4.heap.size w4 w' → _) := hconvB
        clear hcB hconvB hv7
        refine wp_region_noPanic ?_
        refine wp_region_held_drew (S := fun w' => Below w4.heap.size w4 w') (by kernel_rfl) ((Below.refl _ _).drew) (fun hHeld => ?_)
        have hT : Below w4.heap.size w4 w4.drew := hHeld
        refine wpAnyH_take (i := 0) (oi := ⟨some 124, Op.move (Operand.tmp 14), 26, _, _, _⟩) (v := ?v0d) rfl (by kernel_rfl) (by kernel_rfl) (by kernel_rfl) (fun _ _ _ h => h) (Or.inl ⟨by rfl, ?hy0d⟩) hHeld ?rest0d
        case hy0d => intro w9 hSw; go_simp; (try with_reducible rfl)
        try simp only [Act.put, List.setIfInBounds_toArray, List.set_cons_zero, List.set_cons_succ]
        refine wpAnyH_take (i := 1) (oi := ⟨some 125, Op.move (Operand.tmp 15), 3, _, _, _⟩) (v := ?v1d) rfl (by kernel_rfl) (by kernel_rfl) (by kernel_rfl) (fun _ _ _ h => h) (Or.inl ⟨by rfl, ?hy1d⟩) hHeld ?rest1d
        case hy1d => intro w9 hSw; go_simp; (try with_reducible rfl)
        try simp only [Act.put, List.setIfInBounds_toArray, List.set_cons_zero, List.set_cons_succ]
        refine wpAnyH_take (i := 2) (oi := ⟨some 126, Op.binOp BinOp.neq 3 (Operand.tmp 124) (Operand.tmp 125) 3, 4, _, _, _⟩) (v := ?v2d) rfl (by kernel_rfl) (by kernel_rfl) (by kernel_rfl) (fun _ _ _ h => h) (Or.inl ⟨by rfl, ?hy2d⟩) hHeld ?rest2d
        case hy2d => intro w9 hSw; go_simp; (try with_reducible rfl)
        try simp only [Act.put, List.setIfInBounds_toArray, List.set_cons_zero, List.set_cons_succ]
        refine wpAnyH_take (i := 3) (oi := ⟨some 127, Op.move (Operand.tmp 126), 4, _, _, _⟩) (v := ?v3d) rfl (by kernel_rfl) (by kernel_rfl) (by kernel_rfl) (fun _ _ _ h => h) (Or.inl ⟨by rfl, ?hy3d⟩) hHeld ?rest3d
        case hy3d => intro w9 hSw; go_simp; (try with_reducible rfl)
        try simp only [Act.put, List.setIfInBounds_toArray, List.set_cons_zero, List.set_cons_succ]
        refine wpAnyH_take (i := 4) (oi := ⟨some 128, Op.move (Operand.tmp 9), 25, _, _, _⟩) (v := ?v4d) rfl (by kernel_rfl) (by kernel_rfl) (by kernel_rfl) (fun _ _ _ h => h) (Or.inl ⟨by rfl, ?hy4d⟩) hHeld ?rest4d
        case hy4d => intro w9 hSw; go_simp; (try with_reducible rfl)
        try simp only [Act.put, List.setIfInBounds_toArray, List.set_cons_zero, List.set_cons_succ]
        refine wpAnyH_take (i := 7) (oi := ⟨some 131, Op.move (Operand.tmp 11), 29, _, _, _⟩) (v := ?v7d) rfl (by kernel_rfl) (by kernel_rfl) (by kernel_rfl) (fun _ _ _ h => h) (Or.inl ⟨by rfl, ?hy7d⟩) hHeld ?rest7d
        case hy7d => intro w9 hSw; go_simp; (try with_reducible rfl)
        try simp only [Act.put, List.setIfInBounds_toArray, List.set_cons_zero, List.set_cons_succ]
        refine wpAnyH_take (i := 8) (oi := ⟨some 132, Op.nilCheck (Operand.tmp 131), 0, _, _, _⟩) (v := ?v8d) rfl (by kernel_rfl) (by kernel_rfl) (by kernel_rfl) (fun _ _ _ h => h) (Or.inl ⟨by rfl, ?hy8d⟩) hHeld ?rest8d
        case hy8d => intro w9 hSw; go_simp; (try with_reducible rfl)
        try simp only [Act.put, List.setIfInBounds_toArray, List.set_cons_zero, List.set_cons_succ]
        refine wpAnyH_take (i := 9) (oi := ⟨some 133, Op.fieldAddr 44 (Operand.tmp 132) 0, 0, _, _, _⟩) (v := ?v9d) rfl (by kernel_rfl) (by kernel_rfl) (by kernel_rfl) (fun _ _ _ h => h) (Or.inl ⟨by rfl, ?hy9d⟩) hHeld ?rest9d
        case hy9d => intro w9 hSw; go_simp; (try with_reducible rfl)
        try simp only [Act.put, List.setIfInBounds_toArray, List.set_cons_zero, List.set_cons_succ]
        refine wpAnyH_take (i := 10) (oi := ⟨some 134, Op.load 22 (Operand.tmp 133), 22, _, _, _⟩) (v := ?v10d) rfl (by kernel_rfl) (by kernel_rfl) (by kernel_rfl) (fun _ _ _ h => h) (Or.inl ⟨by rfl, ?hy10d⟩) hHeld ?rest10d
        case hy10d => intro w9 hSw; have cBw := HcB.out _ hSw; go_simp; (try with_reducible rfl)
        try simp only [Act.put, List.setIfInBounds_toArray, List.set_cons_zero, List.set_cons_succ]
        refine wpAnyH_take (i := 11) (oi := ⟨some 135, Op.convert 22 9 (Operand.tmp 134), 9, _, _, _⟩) (v := ?v11d) rfl (by kernel_rfl) (by kernel_rfl) (by kernel_rfl) (fun _ _ _ h => h) (Or.inl ⟨by rfl, ?hy11d⟩) hHeld ?rest11d
        case hy11d => intro w9 hSw; have cBw := HconvB.out _ hSw; go_simp; (try with_reducible rfl)
        try simp only [Act.put, List.setIfInBounds_toArray, List.set_cons_zero, List.set_cons_succ]
        refine wpAnyH_ready (rs := [5]) (by kernel_rfl) (by simp) ?_
        refine AllReadyH.cons (o := ⟨some 129, Op.call { callee := Callee.value (Operand.func 17), args := #[Operand.tmp 128], argTypes := #[25] }, 22, _, _, _⟩) rfl (fun K hK => ?_) AllReadyH.nil
        go_simp
        refine (wdone_any (HP4.out.one.later hHeld)).mono ?_
        rintro e x5 ⟨v5, rfl, ho5, hN5⟩
        go_wp2_with fail
        have hT5 : Below w4.heap.size w4 x5 := hT.trans (hN5.mono hT.size)
        refine hK.out _ _ (hHeld.trans (hN5.mono hHeld.size)) (fun _ => held_up (S' := fun w' => Below x5.heap.size x5 w') (fun w' h' => (hHeld.trans (hN5.mono hHeld.size)).trans (h'.mono (Nat.le_trans hHeld.size hN5.size))) _ _ _ _ ?_)
        clear hK K hHeld hT
        have hT : Below w4.heap.size w4 x5 := hT5
        have hHeld : Below x5.heap.size x5 x5 := Below.refl _ _
        clear hT5 hN5
        try simp only [Act.put, List.setIfInBounds_toArray, List.set_cons_zero, List.set_cons_succ]
        have hconv5 : ∀ w', Below x5.heap.size x5 w' → (convert 22 9 v5).run Try.prog w' = .ok (.string (strOf L)) w' := fun w' hb => conv_own (own_below ho5 hb)
        have Hconv5 : Hid (∀ w', Below x5.heap.size x5 w' → _) := hconv5
        clear hconv5 ho5
        refine wpAnyH_take (i := 6) (oi := ⟨some 130, Op.convert 22 9 (Operand.tmp 129), 9, _, _, _⟩) (v := ?v6d) rfl (by kernel_rfl) (by kernel_rfl) (by kernel_rfl) (fun _ _ _ h => h) (Or.inl ⟨by rfl, ?hy6d⟩) hHeld ?rest6d
        case hy6d => intro w9 hSw; have c5w := Hconv5.out _ hSw; go_simp; (try with_reducible rfl)
        try simp only [Act.put, List.setIfInBounds_toArray, List.set_cons_zero, List.set_cons_succ]
        refine wpAnyH_take (i := 12) (oi := ⟨some 136, Op.binOp BinOp.neq 9 (Operand.tmp 130) (Operand.tmp 135) 9, 4, _, _, _⟩) (v := ?v12d) rfl (by kernel_rfl) (by kernel_rfl) (by kernel_rfl) (fun _ _ _ h => h) (Or.inl ⟨by rfl, ?hy12d⟩) hHeld ?rest12d
        case hy12d => intro w9 hSw; go_simp; (try with_reducible rfl)
        try simp only [Act.put, List.setIfInBounds_toArray, List.set_cons_zero, List.set_cons_succ]
        refine wpAnyH_take (i := 13) (oi := ⟨some 137, Op.pick (Operand.tmp 127) (Operand.const (Value.bool true)) (Operand.tmp 136), 4, _, _, _⟩) (v := ?v13d) rfl (by kernel_rfl) (by kernel_rfl) (by kernel_rfl) (fun _ _ _ h => h) (Or.inl ⟨by rfl, ?hy13d⟩) hHeld ?rest13d
        case hy13d => intro w9 hSw; go_simp; (try with_reducible rfl)
        try simp only [Act.put, List.setIfInBounds_toArray, List.set_cons_zero, List.set_cons_succ]
        refine wpAnyH_done (by kernel_rfl) ?_ _
        refine NoPanic.normal ?_
        go_wp2_with fail
        go_roundw
        case rel => exact ⟨k + 1, _, _, L, by go_num, by omega, HP4.out.later hT, hB4.trans (hT.mono hB4.size)⟩
        case measure => simp [intOf]; omega
    · go_upto_region 8 with fail
      go_cut [58] (fun s58 wc => s58 = .bool false ∧ wc = wr)
      case first =>
        go_wp2_with fail
        all_goals go_meet
        all_goals (case rel => first | exact ⟨rfl, rfl⟩ | exact ⟨congrArg Value.bool (decide_eq_false (by omega)), rfl⟩)
      case rest =>
        obtain ⟨hu, hw⟩ := hcut
        subst hu hw
        go_wp2_with (first
          | (go_at_call 8
             refine (awake_any _).mono ?_
             rintro e w6 ⟨rfl, hB7⟩))
        go_ret
        exact ⟨rfl, hB.trans (hB7.mono hB.size)⟩
end Go.Proofs.Ytabflledggocoaa
