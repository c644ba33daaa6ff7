/-
  The document's own once: does each name stand once, but in parts of a POr?
-/
import Derived.Test.YtinnhaojmnmliaaDPatUses
import Derived.Test.YtinnhaojmnmliaaDRefVar
import Derived.Deep.RegionWith
namespace Go.Proofs.Ytinnhaojmnmliaa
open Go.RowKit

abbrev useV (y : Pt) : Value := .agg #[.string y.s, .string y.t, .int .i64 y.k]
def agreeB (a b : Pt) : Bool := decide (a.t = b.t) && ((a.k == 6) == (b.k == 6))
theorem agreeB_iff (a b : Pt) : agreeB a b = true ↔ Agree a b := by
  unfold agreeB Agree
  have e1 : (a.k == 6) = decide (a.k = 6) := by by_cases h : a.k = 6 <;> simp [h]
  have e2 : (b.k == 6) = decide (b.k = 6) := by by_cases h : b.k = 6 <;> simp [h]
  rw [e1, e2]
  by_cases h1 : a.k = 6 <;> by_cases h2 : b.k = 6 <;> simp [h1, h2]
theorem boxU_two (x y : Pt) (w : World) : ∃ A, (w.alloc (.cells #[.string x.s, .string x.t, .int .i64 x.k] 56)).alloc (.cells #[.string y.s, .string y.t, .int .i64 y.k] 56) = A ∧ Below w.heap.size w A ∧
    (A.cell? ⟨w.heap.size, 1, none⟩ = some (.string x.t) ∧ A.cell? ⟨w.heap.size, 2, none⟩ = some (.int .i64 x.k)) ∧ A.cell? ⟨w.heap.size + 1, 1, none⟩ = some (.string y.t) ∧ A.cell? ⟨w.heap.size + 1, 2, none⟩ = some (.int .i64 y.k) := by
  have h1 : ((w.alloc (.cells #[.string x.s, .string x.t, .int .i64 x.k] 56)).alloc (.cells #[.string y.s, .string y.t, .int .i64 y.k] 56)).heap[w.heap.size]? = some (.cells #[.string x.s, .string x.t, .int .i64 x.k] 56 (0, 0)) := (alloc_old (by simp)).trans (alloc_new w _)
  have h2 : ((w.alloc (.cells #[.string x.s, .string x.t, .int .i64 x.k] 56)).alloc (.cells #[.string y.s, .string y.t, .int .i64 y.k] 56)).heap[w.heap.size + 1]? = some (.cells #[.string y.s, .string y.t, .int .i64 y.k] 56 (0, 0)) := alloc2_new _ _ _
  refine ⟨_, rfl, ((Below.refl _ w).alloc (Nat.le_refl _) _).alloc (by simp) _, ⟨?_, ?_⟩, ?_, ?_⟩
  · simp only [World.cell?, h1]; rfl
  · simp only [World.cell?, h1]; rfl
  · simp only [World.cell?, h2]; rfl
  · simp only [World.cell?, h2]; rfl
set_option maxRecDepth 100000 in
theorem refAgree_any (x y : Pt) (w : World) : Calls Try.prog 62 #[useV x, useV y] w fun e w' => e = .returned (.bool (agreeB x y)) ∧ Below w.heap.size w w' := by
  obtain ⟨A, hA, hB, ⟨a1, a2⟩, b1, b2⟩ := boxU_two x y w
  have HB : Hid (Below w.heap.size w A) := hB
  clear hB
  by_cases e : x.t = y.t
  · have t := str_yes e
    have HR : Hid (agreeB x y = ((x.k == 6) == (y.k == 6))) := by show _ = _; unfold agreeB; rw [decide_eq_true e, Bool.true_and]
    clear e
    go_enter Try.func62, Try.ntmps62
    go_wp2
    go_ret
    exact ⟨by rw [HR.out]; rfl, HB.out⟩
  · have t := str_not e
    have HR : Hid (agreeB x y = false) := by show _ = _; unfold agreeB; rw [decide_eq_false e, Bool.false_and]
    clear e
    go_enter Try.func62, Try.ntmps62
    go_wp2
    go_ret
    exact ⟨by rw [HR.out]; rfl, HB.out⟩
/-- What two uses in two parts have to be. -/
def OkU (x a b : Pt) : Prop := a.s = b.s → x.k = 4 ∧ Agree a b
open Classical in
noncomputable def onceB (x : Pt) : Bool := if OnceP x then true else false
theorem onceB_yes {x : Pt} (h : OnceP x) : onceB x = true := if_pos h
theorem onceB_no {x : Pt} (h : ¬ OnceP x) : onceB x = false := if_neg h
set_option maxRecDepth 100000 in
set_option maxHeartbeats 16000000 in
theorem refOnce_step (x : Pt) (w : World) (hX : IsP w x) (hsm : x.size ≤ 1048576) (ih : ∀ i, i < x.n → ∀ w : World, IsP w (x.c i) → Calls Try.prog 39 #[(x.c i).val] w fun e w' => e = .returned (.bool (onceB (x.c i))) ∧ Below w.heap.size w w') :
    Calls Try.prog 39 #[x.val] w fun e w' => e = .returned (.bool (onceB x)) ∧ Below w.heap.size w w' := by
  obtain ⟨r, hr⟩ : ∃ r, r = onceB x := ⟨_, rfl⟩
  have HF1 : Hid (∀ i, i < x.n → ¬ OnceP (x.c i) → r = false) := fun i hi h => by
    rw [hr]
    refine onceB_no ?_
    rw [onceP_eq]
    exact fun e => h (e i hi).1
  have HF2 : Hid (∀ i, i < x.n → ∀ j, j < i → ∀ a ∈ usesP (x.c i), ∀ b ∈ usesP (x.c j), ¬ OkU x a b → r = false) := fun i hi j hj a ha b hb h => by
    rw [hr]
    refine onceB_no ?_
    rw [onceP_eq]
    exact fun e => h ((e i hi).2 j hj a ha b hb)
  have HT : Hid ((∀ i, i < x.n → OnceP (x.c i) ∧ ∀ j, j < i → ∀ a ∈ usesP (x.c i), ∀ b ∈ usesP (x.c j), OkU x a b) → r = true) := fun h => by
    rw [hr]
    refine onceB_yes ?_
    rw [onceP_eq]
    exact h
  rw [← hr]
  obtain ⟨A, hA, hB, hs, hn⟩ := boxP_one x w
  obtain ⟨a0, a1, a2, a3, a4, a5⟩ := hn.at0
  have HB : Hid (Below w.heap.size w A) := hB
  have HN : Hid (NodeP A w.heap.size 0 x) := hn
  have HX : Hid (IsP w x) := hX
  have hlen := hX.len
  have HI : Hid (∀ i, i < x.n → ∀ W, Below w.heap.size w W → Calls Try.prog 39 #[(x.c i).val] W fun e w' => e = .returned (.bool (onceB (x.c i))) ∧ Below W.heap.size W w') := fun i hi W hW => by
    obtain ⟨_, _, _, _, h1⟩ := (hX.later hW).part hi
    exact ih i hi W h1
  have HUS : Hid (∀ i, i < x.n → ∀ W, Below w.heap.size w W → Calls Try.prog 30 #[(x.c i).val] W fun e w' => ∃ a cap, e = .returned (.slice a (usesP (x.c i)).length cap) ∧ Hid (∀ (j : Nat) (y : Pt), (usesP (x.c i))[j]? = some y → ∃ g, a = some ⟨g, 0, none⟩ ∧ w'.cell? ⟨g, j * 3, none⟩ = some (.string y.s) ∧ w'.cell? ⟨g, j * 3 + 1, none⟩ = some (.string y.t) ∧ w'.cell? ⟨g, j * 3 + 2, none⟩ = some (.int .i64 y.k)) ∧ Below W.heap.size W w') := fun i hi W hW => by
    obtain ⟨_, _, _, _, h1⟩ := (hX.later hW).part hi
    refine (refUses_any (x.c i) W h1 (by have := x.size_part i hi; omega)).mono ?_
    rintro e w' ⟨v, rfl, hv, hB'⟩
    obtain ⟨a, cap, rfl, -, -, -, hc⟩ := own_uses hv
    refine ⟨a, cap, rfl, fun j y hy => ?_, hB'⟩
    obtain ⟨g, e1, _, _, c0, c1, c2⟩ := hc j y hy
    exact ⟨g, e1, c0, c1, c2⟩
  have HUL : Hid (∀ i, i < x.n → (usesP (x.c i)).length ≤ 1048576) := fun i hi => by have := length_uses (x.c i); have := x.size_part i hi; omega
  clear hB hn hX ih hs hsm hr
  go_enter Try.func39, Try.ntmps39
  go_wp2_with fail
  clear a0 a1 a2 a3 a4 a5 hA
  go_loopw [3] (fun iv wr => ∃ i : Nat, i ≤ x.n ∧ iv = .int .i64 i ∧ Hid (∀ i', i' < i → OnceP (x.c i') ∧ ∀ j, j < i' → ∀ a ∈ usesP (x.c i'), ∀ b ∈ usesP (x.c j), OkU x a b) ∧ Below A.heap.size A wr) (fun iv _ => x.n - (intOf iv).toNat)
  case atStart => exact ⟨0, Nat.zero_le _, rfl, fun i' h => absurd h (Nat.not_lt_zero _), Below.refl _ _⟩
  case round =>
    obtain ⟨i, hi, rfl, HK, hBr⟩ := hrel
    have hw := HB.out.trans (hBr.mono HB.out.size)
    obtain ⟨c0, c1, c2, c3, c4, c5⟩ := (HN.out.later hBr).at0
    by_cases hin : i < x.n
    · obtain ⟨b, o, ea, hn, -⟩ := (HX.out.later hw).part hin
      rw [ea] at c5
      obtain ⟨d0, d1, d2, d3, d4, d5⟩ := hn
      have hc := HI.out i hin wr hw
      have HIN : Hid (i < x.n) := hin
      have HWR : Hid (Below w.heap.size w wr) := hw
      clear hw ea
      by_cases ho : OnceP (x.c i)
      · have e1 : onceB (x.c i) = true := onceB_yes ho
        rw [e1] at hc
        have HOI : Hid (OnceP (x.c i)) := ho
        have hcu := HUS.out i hin
        have HND : Hid (NodeP wr b (o + i * 6) (x.c i)) := ⟨d0, d1, d2, d3, d4, d5⟩
        have C5 : Hid (wr.cell? ⟨w.heap.size, 5, none⟩ = some (.slice (some ⟨b, o, none⟩) x.n x.cap)) := c5
        clear ho e1
        go_wp2_with (first
          | (go_at_call 39; refine hc.mono ?_; clear hc; rintro e w2 ⟨rfl, hB2⟩; have c5' := cell_later C5.out hB2; obtain ⟨f0, f1, f2, f3, f4, f5⟩ := HND.out.later hB2; have hw2 := HWR.out.trans (hB2.mono HWR.out.size))
          | (go_at_call 30; refine (hcu w2 hw2).mono ?_; clear hcu; rintro e w3 ⟨au, capu, rfl, hau, hB3⟩))
        have hw3 := hw2.trans (hB3.mono hw2.size)
        have HW3 : Hid (Below w.heap.size w w3) := hw3
        have HB3 : Hid (Below A.heap.size A w3) := (hBr.trans (hB2.mono hBr.size)).trans (hB3.mono (Nat.le_trans hBr.size hB2.size))
        have hAL := HUL.out i hin
        have HIO : Hid (∀ j, j < i → j < x.n) := fun j hj => by have := HIN.out; omega
        clear hw3 hw2 hB2 hB3 c0 c1 c2 c3 c4 c5 c5' d0 d1 d2 d3 d4 d5 f0 f1 f2 f3 f4 f5 C5 HND hBr
        obtain ⟨U, hU⟩ : ∃ U, U = usesP (x.c i) := ⟨_, rfl⟩
        rw [← hU] at hau hAL ⊢
        have HU : Hid (U = usesP (x.c i)) := hU
        clear hU
        go_loopw [5] (fun jv ws => ∃ j : Nat, j ≤ i ∧ jv = .int .i64 j ∧ Hid (∀ j', j' < j → ∀ a ∈ U, ∀ b ∈ usesP (x.c j'), OkU x a b) ∧ Below w3.heap.size w3 ws) (fun jv _ => i - (intOf jv).toNat)
        case atStart => exact ⟨0, Nat.zero_le _, rfl, fun j' h => absurd h (Nat.not_lt_zero _), Below.refl _ _⟩
        case round =>
          obtain ⟨j, hj, rfl, HK2, hBs⟩ := hrel
          have hws := HW3.out.trans (hBs.mono HW3.out.size)
          by_cases hji : j < i
          · have hjn := HIO.out j hji
            obtain ⟨b, o, ea, hn, -⟩ := (HX.out.later hws).part hjn
            have c5 := ((HN.out.later HB3.out).later hBs).at0.2.2.2.2.2
            rw [ea] at c5
            obtain ⟨d0, d1, d2, d3, d4, d5⟩ := hn
            have hcu := HUS.out j hjn wr hws
            have hBL := HUL.out j hjn
            have HJI : Hid (j < i) := hji
            have HWS : Hid (Below w.heap.size w wr) := hws
            clear ea hws
            go_wp2_with (first
              | (go_at_call 30; refine hcu.mono ?_; clear hcu; rintro e w4 ⟨bu, capb, rfl, hbu, hB4⟩))
            have HW4 : Hid (Below w.heap.size w w4) := HWS.out.trans (hB4.mono HWS.out.size)
            have HB34 : Hid (Below w3.heap.size w3 w4) := hBs.trans (hB4.mono hBs.size)
            clear c5 d0 d1 d2 d3 d4 d5 hB4 hBs HWS
            obtain ⟨V, hV⟩ : ∃ V, V = usesP (x.c j) := ⟨_, rfl⟩
            rw [← hV] at hbu hBL ⊢
            have HV : Hid (V = usesP (x.c j)) := hV
            have HFF : Hid (∀ a ∈ U, ∀ b ∈ V, ¬ OkU x a b → r = false) := fun a ha b hb h => HF2.out i HIN.out j HJI.out a (HU.out ▸ ha) b (HV.out ▸ hb) h
            clear hV
            go_loopw [7] (fun mv wt => ∃ m : Nat, m ≤ U.length ∧ mv = .int .i64 m ∧ Hid (∀ m' a, m' < m → U[m']? = some a → ∀ b ∈ V, OkU x a b) ∧ Below w4.heap.size w4 wt) (fun mv _ => U.length - (intOf mv).toNat)
            case atStart => exact ⟨0, Nat.zero_le _, rfl, fun m' a h => absurd h (Nat.not_lt_zero _), Below.refl _ _⟩
            case round =>
              obtain ⟨m, hm, rfl, HK3, hBt⟩ := hrel
              by_cases hmn : m < U.length
              · obtain ⟨a, ha⟩ : ∃ a, U[m]? = some a := ⟨U[m]'hmn, List.getElem?_eq_getElem _⟩
                have HMN : Hid (m < U.length) := hmn
                have HMA : Hid (U[m]? = some a) := ha
                have haU : a ∈ U := by obtain ⟨h, e⟩ := List.getElem?_eq_some_iff.1 ha; rw [← e]; exact List.getElem_mem h
                have HAU : Hid (a ∈ U) := haU
                obtain ⟨ga, rfl, p0, p1, p2⟩ := hau.out m a ha
                have HPA : Hid (w3.cell? ⟨ga, m * 3, none⟩ = some (.string a.s) ∧ w3.cell? ⟨ga, m * 3 + 1, none⟩ = some (.string a.t) ∧ w3.cell? ⟨ga, m * 3 + 2, none⟩ = some (.int .i64 a.k)) := ⟨p0, p1, p2⟩
                clear ha haU p0 p1 p2
                go_wp2_with fail
                have hBt0 := hBt
                clear hBt
                obtain ⟨w5, hw5⟩ : ∃ w5, w5 = wr := ⟨_, rfl⟩
                rw [← hw5] at hBt0 ⊢
                clear hw5
                go_loopw [8] (fun nv wu => ∃ n : Nat, n ≤ V.length ∧ nv = .int .i64 n ∧ Hid (∀ n' b, n' < n → V[n']? = some b → OkU x a b) ∧ Below w5.heap.size w5 wu) (fun nv _ => V.length - (intOf nv).toNat)
                case atStart => exact ⟨0, Nat.zero_le _, rfl, fun n' b h => absurd h (Nat.not_lt_zero _), Below.refl _ _⟩
                case round =>
                  obtain ⟨n, hn, rfl, HK4, hBu⟩ := hrel
                  have hb4 := hBt0.trans (hBu.mono hBt0.size)
                  have hb3 := HB34.out.trans (hb4.mono HB34.out.size)
                  by_cases hnn : n < V.length
                  · obtain ⟨b, hb⟩ : ∃ b, V[n]? = some b := ⟨V[n]'hnn, List.getElem?_eq_getElem _⟩
                    have HNN : Hid (n < V.length) := hnn
                    have HNB : Hid (V[n]? = some b) := hb
                    have hbV : b ∈ V := by obtain ⟨h, e⟩ := List.getElem?_eq_some_iff.1 hb; rw [← e]; exact List.getElem_mem h
                    obtain ⟨gb, rfl, q0, q1, q2⟩ := hbu.out n b hb
                    have e0 := cell_later q0 hb4
                    have e1 := cell_later q1 hb4
                    have e2 := cell_later q2 hb4
                    have g0 := cell_later HPA.out.1 hb3
                    have g1 := cell_later HPA.out.2.1 hb3
                    have g2 := cell_later HPA.out.2.2 hb3
                    have ck := ((HN.out.later HB3.out).later hb3).at0.1
                    have HFO : Hid (¬ OkU x a b → r = false) := HFF.out a HAU.out b hbV
                    have HWU : Hid (Below w.heap.size w wr) := HW3.out.trans (hb3.mono HW3.out.size)
                    have HNX : Hid (OkU x a b → ∀ n' b', n' < n + 1 → V[n']? = some b' → OkU x a b') := fun ho n' b' h1 h2 => by
                      by_cases e : n' = n
                      · rw [e, HNB.out] at h2; cases h2; exact ho
                      · exact HK4.out n' b' (by omega) h2
                    clear hb hbV q0 q1 q2 hb3 hb4
                    by_cases es : a.s = b.s
                    · have t1 := str_yes es
                      by_cases ek : x.k = 4
                      · have t2 : (x.k != 4) = false := by simp [ek]
                        obtain ⟨z, hz⟩ : ∃ z, z = agreeB a b := ⟨_, rfl⟩
                        have hc : Hid (∀ d, Calls Try.prog 62 #[useV a, useV b] d fun e w' => e = .returned (.bool z) ∧ Below d.heap.size d w') := fun d => by rw [hz]; exact refAgree_any a b d
                        have HZ1 : Hid (z = true → OkU x a b) := fun h _ => ⟨ek, (agreeB_iff a b).1 (hz ▸ h)⟩
                        have HZ0 : Hid (z = false → r = false) := fun h => HFO.out fun e => by
                          have := (agreeB_iff a b).2 (e es).2
                          rw [← hz, h] at this; cases this
                        have E0 : Hid _ := e0
                        have E1 : Hid _ := e1
                        have E2 : Hid _ := e2
                        have G0 : Hid _ := g0
                        have G1 : Hid _ := g1
                        have G2 : Hid _ := g2
                        have CK : Hid _ := ck
                        clear es ek hz e0 e1 e2 g0 g1 g2 ck
                        cases z with
                        | true =>
                          go_wp2_with fail
                          refine wp_region_noPanic ?_
                          refine wp_region_held_drew (S := fun w' => Below wr.heap.size wr w') (by kernel_rfl) ((Below.refl _ _).drew) (fun hHeld => ?_)
                          have hT : Below wr.heap.size wr wr.drew := hHeld
                          obtain ⟨d, hdw⟩ : ∃ d, d = wr.drew := ⟨_, rfl⟩
                          rw [← hdw] at hHeld hT ⊢
                          clear hdw
                          refine wpAnyH_take (i := 0) (oi := ⟨some 52, Op.move (Operand.tmp 4), 53, _, _, _⟩) (v := ?v0t) rfl (by kernel_rfl) (by kernel_rfl) (by kernel_rfl) (fun _ _ _ h => h) (Or.inl ⟨by rfl, ?hy0t⟩) hHeld ?rest0t
                          case hy0t => intro w9 hSw; go_simp; (try with_reducible rfl)
                          try simp only [Act.put, List.setIfInBounds_toArray, List.set_cons_zero, List.set_cons_succ]
                          refine wpAnyH_take (i := 1) (oi := ⟨some 53, Op.move (Operand.tmp 7), 3, _, _, _⟩) (v := ?v1t) rfl (by kernel_rfl) (by kernel_rfl) (by kernel_rfl) (fun _ _ _ h => h) (Or.inl ⟨by rfl, ?hy1t⟩) hHeld ?rest1t
                          case hy1t => intro w9 hSw; go_simp; (try with_reducible rfl)
                          try simp only [Act.put, List.setIfInBounds_toArray, List.set_cons_zero, List.set_cons_succ]
                          refine wpAnyH_take (i := 2) (oi := ⟨some 54, Op.indexAddr 53 (Operand.tmp 52) (Operand.tmp 53), 0, _, _, _⟩) (v := ?v2t) rfl (by kernel_rfl) (by kernel_rfl) (by kernel_rfl) (fun _ _ _ h => h) (Or.inl ⟨by rfl, ?hy2t⟩) hHeld ?rest2t
                          case hy2t => intro w9 hSw; go_simp; (try with_reducible rfl)
                          try simp only [Act.put, List.setIfInBounds_toArray, List.set_cons_zero, List.set_cons_succ]
                          refine wpAnyH_take (i := 3) (oi := ⟨some 55, Op.fieldAddr 56 (Operand.tmp 54) 0, 0, _, _, _⟩) (v := ?v3t) rfl (by kernel_rfl) (by kernel_rfl) (by kernel_rfl) (fun _ _ _ h => h) (Or.inl ⟨by rfl, ?hy3t⟩) hHeld ?rest3t
                          case hy3t => intro w9 hSw; go_simp; (try with_reducible rfl)
                          try simp only [Act.put, List.setIfInBounds_toArray, List.set_cons_zero, List.set_cons_succ]
                          refine wpAnyH_take (i := 4) (oi := ⟨some 56, Op.load 9 (Operand.tmp 55), 9, _, _, _⟩) (v := ?v4t) rfl (by kernel_rfl) (by kernel_rfl) (by kernel_rfl) (fun _ _ _ h => h) (Or.inl ⟨by rfl, ?hy4t⟩) hHeld ?rest4t
                          case hy4t => intro w9 hSw; have cc := cell_later G0.out hSw; go_simp; (try with_reducible rfl)
                          try simp only [Act.put, List.setIfInBounds_toArray, List.set_cons_zero, List.set_cons_succ]
                          refine wpAnyH_take (i := 5) (oi := ⟨some 57, Op.move (Operand.tmp 6), 53, _, _, _⟩) (v := ?v5t) rfl (by kernel_rfl) (by kernel_rfl) (by kernel_rfl) (fun _ _ _ h => h) (Or.inl ⟨by rfl, ?hy5t⟩) hHeld ?rest5t
                          case hy5t => intro w9 hSw; go_simp; (try with_reducible rfl)
                          try simp only [Act.put, List.setIfInBounds_toArray, List.set_cons_zero, List.set_cons_succ]
                          refine wpAnyH_take (i := 6) (oi := ⟨some 58, Op.move (Operand.tmp 8), 3, _, _, _⟩) (v := ?v6t) rfl (by kernel_rfl) (by kernel_rfl) (by kernel_rfl) (fun _ _ _ h => h) (Or.inl ⟨by rfl, ?hy6t⟩) hHeld ?rest6t
                          case hy6t => intro w9 hSw; go_simp; (try with_reducible rfl)
                          try simp only [Act.put, List.setIfInBounds_toArray, List.set_cons_zero, List.set_cons_succ]
                          refine wpAnyH_take (i := 7) (oi := ⟨some 59, Op.indexAddr 53 (Operand.tmp 57) (Operand.tmp 58), 0, _, _, _⟩) (v := ?v7t) rfl (by kernel_rfl) (by kernel_rfl) (by kernel_rfl) (fun _ _ _ h => h) (Or.inl ⟨by rfl, ?hy7t⟩) hHeld ?rest7t
                          case hy7t => intro w9 hSw; go_simp; (try with_reducible rfl)
                          try simp only [Act.put, List.setIfInBounds_toArray, List.set_cons_zero, List.set_cons_succ]
                          refine wpAnyH_take (i := 8) (oi := ⟨some 60, Op.fieldAddr 56 (Operand.tmp 59) 0, 0, _, _, _⟩) (v := ?v8t) rfl (by kernel_rfl) (by kernel_rfl) (by kernel_rfl) (fun _ _ _ h => h) (Or.inl ⟨by rfl, ?hy8t⟩) hHeld ?rest8t
                          case hy8t => intro w9 hSw; go_simp; (try with_reducible rfl)
                          try simp only [Act.put, List.setIfInBounds_toArray, List.set_cons_zero, List.set_cons_succ]
                          refine wpAnyH_take (i := 9) (oi := ⟨some 61, Op.load 9 (Operand.tmp 60), 9, _, _, _⟩) (v := ?v9t) rfl (by kernel_rfl) (by kernel_rfl) (by kernel_rfl) (fun _ _ _ h => h) (Or.inl ⟨by rfl, ?hy9t⟩) hHeld ?rest9t
                          case hy9t => intro w9 hSw; have cc := cell_later E0.out hSw; go_simp; (try with_reducible rfl)
                          try simp only [Act.put, List.setIfInBounds_toArray, List.set_cons_zero, List.set_cons_succ]
                          refine wpAnyH_take (i := 10) (oi := ⟨some 62, Op.binOp BinOp.eql 9 (Operand.tmp 56) (Operand.tmp 61) 9, 4, _, _, _⟩) (v := ?v10t) rfl (by kernel_rfl) (by kernel_rfl) (by kernel_rfl) (fun _ _ _ h => h) (Or.inl ⟨by rfl, ?hy10t⟩) hHeld ?rest10t
                          case hy10t => intro w9 hSw; go_simp; (try with_reducible rfl)
                          try simp only [Act.put, List.setIfInBounds_toArray, List.set_cons_zero, List.set_cons_succ]
                          refine wpAnyH_take (i := 11) (oi := ⟨some 63, Op.move (Operand.tmp 62), 4, _, _, _⟩) (v := ?v11t) rfl (by kernel_rfl) (by kernel_rfl) (by kernel_rfl) (fun _ _ _ h => h) (Or.inl ⟨by rfl, ?hy11t⟩) hHeld ?rest11t
                          case hy11t => intro w9 hSw; go_simp; (try with_reducible rfl)
                          try simp only [Act.put, List.setIfInBounds_toArray, List.set_cons_zero, List.set_cons_succ]
                          refine wpAnyH_take (i := 12) (oi := ⟨some 64, Op.fieldAddr 24 (Operand.tmp 1) 0, 0, _, _, _⟩) (v := ?v12t) rfl (by kernel_rfl) (by kernel_rfl) (by kernel_rfl) (fun _ _ _ h => h) (Or.inl ⟨by rfl, ?hy12t⟩) hHeld ?rest12t
                          case hy12t => intro w9 hSw; go_simp; (try with_reducible rfl)
                          try simp only [Act.put, List.setIfInBounds_toArray, List.set_cons_zero, List.set_cons_succ]
                          refine wpAnyH_take (i := 13) (oi := ⟨some 65, Op.load 3 (Operand.tmp 64), 3, _, _, _⟩) (v := ?v13t) rfl (by kernel_rfl) (by kernel_rfl) (by kernel_rfl) (fun _ _ _ h => h) (Or.inl ⟨by rfl, ?hy13t⟩) hHeld ?rest13t
                          case hy13t => intro w9 hSw; have cc := cell_later CK.out hSw; go_simp; (try with_reducible rfl)
                          try simp only [Act.put, List.setIfInBounds_toArray, List.set_cons_zero, List.set_cons_succ]
                          refine wpAnyH_take (i := 14) (oi := ⟨some 66, Op.binOp BinOp.neq 3 (Operand.tmp 65) (Operand.const (Value.int IntKind.i64 4)) 3, 4, _, _, _⟩) (v := ?v14t) rfl (by kernel_rfl) (by kernel_rfl) (by kernel_rfl) (fun _ _ _ h => h) (Or.inl ⟨by rfl, ?hy14t⟩) hHeld ?rest14t
                          case hy14t => intro w9 hSw; go_simp; (try with_reducible rfl)
                          try simp only [Act.put, List.setIfInBounds_toArray, List.set_cons_zero, List.set_cons_succ]
                          refine wpAnyH_take (i := 15) (oi := ⟨some 67, Op.move (Operand.tmp 66), 4, _, _, _⟩) (v := ?v15t) rfl (by kernel_rfl) (by kernel_rfl) (by kernel_rfl) (fun _ _ _ h => h) (Or.inl ⟨by rfl, ?hy15t⟩) hHeld ?rest15t
                          case hy15t => intro w9 hSw; go_simp; (try with_reducible rfl)
                          try simp only [Act.put, List.setIfInBounds_toArray, List.set_cons_zero, List.set_cons_succ]
                          refine wpAnyH_take (i := 16) (oi := ⟨some 68, Op.move (Operand.tmp 4), 53, _, _, _⟩) (v := ?v16t) rfl (by kernel_rfl) (by kernel_rfl) (by kernel_rfl) (fun _ _ _ h => h) (Or.inl ⟨by rfl, ?hy16t⟩) hHeld ?rest16t
                          case hy16t => intro w9 hSw; go_simp; (try with_reducible rfl)
                          try simp only [Act.put, List.setIfInBounds_toArray, List.set_cons_zero, List.set_cons_succ]
                          refine wpAnyH_take (i := 17) (oi := ⟨some 69, Op.move (Operand.tmp 7), 3, _, _, _⟩) (v := ?v17t) rfl (by kernel_rfl) (by kernel_rfl) (by kernel_rfl) (fun _ _ _ h => h) (Or.inl ⟨by rfl, ?hy17t⟩) hHeld ?rest17t
                          case hy17t => intro w9 hSw; go_simp; (try with_reducible rfl)
                          try simp only [Act.put, List.setIfInBounds_toArray, List.set_cons_zero, List.set_cons_succ]
                          refine wpAnyH_take (i := 18) (oi := ⟨some 70, Op.indexAddr 53 (Operand.tmp 68) (Operand.tmp 69), 0, _, _, _⟩) (v := ?v18t) rfl (by kernel_rfl) (by kernel_rfl) (by kernel_rfl) (fun _ _ _ h => h) (Or.inl ⟨by rfl, ?hy18t⟩) hHeld ?rest18t
                          case hy18t => intro w9 hSw; go_simp; (try with_reducible rfl)
                          try simp only [Act.put, List.setIfInBounds_toArray, List.set_cons_zero, List.set_cons_succ]
                          refine wpAnyH_take (i := 19) (oi := ⟨some 71, Op.load 56 (Operand.tmp 70), 56, _, _, _⟩) (v := ?v19t) rfl (by kernel_rfl) (by kernel_rfl) (by kernel_rfl) (fun _ _ _ h => h) (Or.inl ⟨by rfl, ?hy19t⟩) hHeld ?rest19t
                          case hy19t => intro w9 hSw; have cc0 := cell_later G0.out hSw; have cc1 := cell_later G1.out hSw; have cc2 := cell_later G2.out hSw; go_simp; (try with_reducible rfl)
                          try simp only [Act.put, List.setIfInBounds_toArray, List.set_cons_zero, List.set_cons_succ]
                          refine wpAnyH_take (i := 20) (oi := ⟨some 72, Op.move (Operand.tmp 6), 53, _, _, _⟩) (v := ?v20t) rfl (by kernel_rfl) (by kernel_rfl) (by kernel_rfl) (fun _ _ _ h => h) (Or.inl ⟨by rfl, ?hy20t⟩) hHeld ?rest20t
                          case hy20t => intro w9 hSw; go_simp; (try with_reducible rfl)
                          try simp only [Act.put, List.setIfInBounds_toArray, List.set_cons_zero, List.set_cons_succ]
                          refine wpAnyH_take (i := 21) (oi := ⟨some 73, Op.move (Operand.tmp 8), 3, _, _, _⟩) (v := ?v21t) rfl (by kernel_rfl) (by kernel_rfl) (by kernel_rfl) (fun _ _ _ h => h) (Or.inl ⟨by rfl, ?hy21t⟩) hHeld ?rest21t
                          case hy21t => intro w9 hSw; go_simp; (try with_reducible rfl)
                          try simp only [Act.put, List.setIfInBounds_toArray, List.set_cons_zero, List.set_cons_succ]
                          refine wpAnyH_take (i := 22) (oi := ⟨some 74, Op.indexAddr 53 (Operand.tmp 72) (Operand.tmp 73), 0, _, _, _⟩) (v := ?v22t) rfl (by kernel_rfl) (by kernel_rfl) (by kernel_rfl) (fun _ _ _ h => h) (Or.inl ⟨by rfl, ?hy22t⟩) hHeld ?rest22t
                          case hy22t => intro w9 hSw; go_simp; (try with_reducible rfl)
                          try simp only [Act.put, List.setIfInBounds_toArray, List.set_cons_zero, List.set_cons_succ]
                          refine wpAnyH_take (i := 23) (oi := ⟨some 75, Op.load 56 (Operand.tmp 74), 56, _, _, _⟩) (v := ?v23t) rfl (by kernel_rfl) (by kernel_rfl) (by kernel_rfl) (fun _ _ _ h => h) (Or.inl ⟨by rfl, ?hy23t⟩) hHeld ?rest23t
                          case hy23t => intro w9 hSw; have cc0 := cell_later E0.out hSw; have cc1 := cell_later E1.out hSw; have cc2 := cell_later E2.out hSw; go_simp; (try with_reducible rfl)
                          try simp only [Act.put, List.setIfInBounds_toArray, List.set_cons_zero, List.set_cons_succ]
                          refine wpAnyH_ready (rs := [24]) (by kernel_rfl) (by simp) ?_
                          refine AllReadyH.cons (o := ⟨some 76, Op.call { callee := Callee.value (Operand.func 62), args := #[Operand.tmp 71, Operand.tmp 75], argTypes := #[56, 56] }, 4, _, _, _⟩) rfl (fun K hK => ?_) AllReadyH.nil
                          go_simp
                          refine (hc.out _).mono ?_
                          rintro e x24 ⟨rfl, hN24⟩
                          go_wp2_with fail
                          have hT24 : Below wr.heap.size wr x24 := hT.trans (hN24.mono hT.size)
                          refine hK.out _ _ (hHeld.trans (hN24.mono hHeld.size)) (fun _ => held_up (S' := fun w' => Below x24.heap.size x24 w') (fun w' h' => (hHeld.trans (hN24.mono hHeld.size)).trans (h'.mono (Nat.le_trans hHeld.size hN24.size))) _ _ _ _ ?_)
                          clear hK K hHeld hT
                          have hT : Below wr.heap.size wr x24 := hT24
                          have hHeld : Below x24.heap.size x24 x24 := Below.refl _ _
                          clear hT24 hN24
                          try simp only [Act.put, List.setIfInBounds_toArray, List.set_cons_zero, List.set_cons_succ]
                          refine wpAnyH_take (i := 25) (oi := ⟨some 77, Op.unOp UnOp.not 4 (Operand.tmp 76), 4, _, _, _⟩) (v := ?v25t) rfl (by kernel_rfl) (by kernel_rfl) (by kernel_rfl) (fun _ _ _ h => h) (Or.inl ⟨by rfl, ?hy25t⟩) hHeld ?rest25t
                          case hy25t => intro w9 hSw; go_simp; (try with_reducible rfl)
                          try simp only [Act.put, List.setIfInBounds_toArray, List.set_cons_zero, List.set_cons_succ]
                          refine wpAnyH_take (i := 26) (oi := ⟨some 78, Op.pick (Operand.tmp 67) (Operand.const (Value.bool true)) (Operand.tmp 77), 4, _, _, _⟩) (v := ?v26t) rfl (by kernel_rfl) (by kernel_rfl) (by kernel_rfl) (fun _ _ _ h => h) (Or.inl ⟨by rfl, ?hy26t⟩) hHeld ?rest26t
                          case hy26t => intro w9 hSw; go_simp; (try with_reducible rfl)
                          try simp only [Act.put, List.setIfInBounds_toArray, List.set_cons_zero, List.set_cons_succ]
                          refine wpAnyH_take (i := 27) (oi := ⟨some 79, Op.pick (Operand.tmp 63) (Operand.tmp 78) (Operand.const (Value.bool false)), 4, _, _, _⟩) (v := ?v27t) rfl (by kernel_rfl) (by kernel_rfl) (by kernel_rfl) (fun _ _ _ h => h) (Or.inl ⟨by rfl, ?hy27t⟩) hHeld ?rest27t
                          case hy27t => intro w9 hSw; go_simp; (try with_reducible rfl)
                          try simp only [Act.put, List.setIfInBounds_toArray, List.set_cons_zero, List.set_cons_succ]
                          refine wpAnyH_done (by kernel_rfl) ?_ _
                          refine NoPanic.normal ?_
                          go_wp2
                          go_roundw
                          case rel => exact ⟨n + 1, HNN.out, by go_num, HNX.out (HZ1.out (by trivial)), hBu.trans (hT.mono hBu.size)⟩
                          case measure => have := HNN.out; simp [intOf]; omega
                        | false =>
                          go_wp2_with fail
                          refine wp_region_noPanic ?_
                          refine wp_region_held_drew (S := fun w' => Below wr.heap.size wr w') (by kernel_rfl) ((Below.refl _ _).drew) (fun hHeld => ?_)
                          have hT : Below wr.heap.size wr wr.drew := hHeld
                          obtain ⟨d, hdw⟩ : ∃ d, d = wr.drew := ⟨_, rfl⟩
                          rw [← hdw] at hHeld hT ⊢
                          clear hdw
                          refine wpAnyH_take (i := 0) (oi := ⟨some 52, Op.move (Operand.tmp 4), 53, _, _, _⟩) (v := ?v0f) rfl (by kernel_rfl) (by kernel_rfl) (by kernel_rfl) (fun _ _ _ h => h) (Or.inl ⟨by rfl, ?hy0f⟩) hHeld ?rest0f
                          case hy0f => intro w9 hSw; go_simp; (try with_reducible rfl)
                          try simp only [Act.put, List.setIfInBounds_toArray, List.set_cons_zero, List.set_cons_succ]
                          refine wpAnyH_take (i := 1) (oi := ⟨some 53, Op.move (Operand.tmp 7), 3, _, _, _⟩) (v := ?v1f) rfl (by kernel_rfl) (by kernel_rfl) (by kernel_rfl) (fun _ _ _ h => h) (Or.inl ⟨by rfl, ?hy1f⟩) hHeld ?rest1f
                          case hy1f => intro w9 hSw; go_simp; (try with_reducible rfl)
                          try simp only [Act.put, List.setIfInBounds_toArray, List.set_cons_zero, List.set_cons_succ]
                          refine wpAnyH_take (i := 2) (oi := ⟨some 54, Op.indexAddr 53 (Operand.tmp 52) (Operand.tmp 53), 0, _, _, _⟩) (v := ?v2f) rfl (by kernel_rfl) (by kernel_rfl) (by kernel_rfl) (fun _ _ _ h => h) (Or.inl ⟨by rfl, ?hy2f⟩) hHeld ?rest2f
                          case hy2f => intro w9 hSw; go_simp; (try with_reducible rfl)
                          try simp only [Act.put, List.setIfInBounds_toArray, List.set_cons_zero, List.set_cons_succ]
                          refine wpAnyH_take (i := 3) (oi := ⟨some 55, Op.fieldAddr 56 (Operand.tmp 54) 0, 0, _, _, _⟩) (v := ?v3f) rfl (by kernel_rfl) (by kernel_rfl) (by kernel_rfl) (fun _ _ _ h => h) (Or.inl ⟨by rfl, ?hy3f⟩) hHeld ?rest3f
                          case hy3f => intro w9 hSw; go_simp; (try with_reducible rfl)
                          try simp only [Act.put, List.setIfInBounds_toArray, List.set_cons_zero, List.set_cons_succ]
                          refine wpAnyH_take (i := 4) (oi := ⟨some 56, Op.load 9 (Operand.tmp 55), 9, _, _, _⟩) (v := ?v4f) rfl (by kernel_rfl) (by kernel_rfl) (by kernel_rfl) (fun _ _ _ h => h) (Or.inl ⟨by rfl, ?hy4f⟩) hHeld ?rest4f
                          case hy4f => intro w9 hSw; have cc := cell_later G0.out hSw; go_simp; (try with_reducible rfl)
                          try simp only [Act.put, List.setIfInBounds_toArray, List.set_cons_zero, List.set_cons_succ]
                          refine wpAnyH_take (i := 5) (oi := ⟨some 57, Op.move (Operand.tmp 6), 53, _, _, _⟩) (v := ?v5f) rfl (by kernel_rfl) (by kernel_rfl) (by kernel_rfl) (fun _ _ _ h => h) (Or.inl ⟨by rfl, ?hy5f⟩) hHeld ?rest5f
                          case hy5f => intro w9 hSw; go_simp; (try with_reducible rfl)
                          try simp only [Act.put, List.setIfInBounds_toArray, List.set_cons_zero, List.set_cons_succ]
                          refine wpAnyH_take (i := 6) (oi := ⟨some 58, Op.move (Operand.tmp 8), 3, _, _, _⟩) (v := ?v6f) rfl (by kernel_rfl) (by kernel_rfl) (by kernel_rfl) (fun _ _ _ h => h) (Or.inl ⟨by rfl, ?hy6f⟩) hHeld ?rest6f
                          case hy6f => intro w9 hSw; go_simp; (try with_reducible rfl)
                          try simp only [Act.put, List.setIfInBounds_toArray, List.set_cons_zero, List.set_cons_succ]
                          refine wpAnyH_take (i := 7) (oi := ⟨some 59, Op.indexAddr 53 (Operand.tmp 57) (Operand.tmp 58), 0, _, _, _⟩) (v := ?v7f) rfl (by kernel_rfl) (by kernel_rfl) (by kernel_rfl) (fun _ _ _ h => h) (Or.inl ⟨by rfl, ?hy7f⟩) hHeld ?rest7f
                          case hy7f => intro w9 hSw; go_simp; (try with_reducible rfl)
                          try simp only [Act.put, List.setIfInBounds_toArray, List.set_cons_zero, List.set_cons_succ]
                          refine wpAnyH_take (i := 8) (oi := ⟨some 60, Op.fieldAddr 56 (Operand.tmp 59) 0, 0, _, _, _⟩) (v := ?v8f) rfl (by kernel_rfl) (by kernel_rfl) (by kernel_rfl) (fun _ _ _ h => h) (Or.inl ⟨by rfl, ?hy8f⟩) hHeld ?rest8f
                          case hy8f => intro w9 hSw; go_simp; (try with_reducible rfl)
                          try simp only [Act.put, List.setIfInBounds_toArray, List.set_cons_zero, List.set_cons_succ]
                          refine wpAnyH_take (i := 9) (oi := ⟨some 61, Op.load 9 (Operand.tmp 60), 9, _, _, _⟩) (v := ?v9f) rfl (by kernel_rfl) (by kernel_rfl) (by kernel_rfl) (fun _ _ _ h => h) (Or.inl ⟨by rfl, ?hy9f⟩) hHeld ?rest9f
                          case hy9f => intro w9 hSw; have cc := cell_later E0.out hSw; go_simp; (try with_reducible rfl)
                          try simp only [Act.put, List.setIfInBounds_toArray, List.set_cons_zero, List.set_cons_succ]
                          refine wpAnyH_take (i := 10) (oi := ⟨some 62, Op.binOp BinOp.eql 9 (Operand.tmp 56) (Operand.tmp 61) 9, 4, _, _, _⟩) (v := ?v10f) rfl (by kernel_rfl) (by kernel_rfl) (by kernel_rfl) (fun _ _ _ h => h) (Or.inl ⟨by rfl, ?hy10f⟩) hHeld ?rest10f
                          case hy10f => intro w9 hSw; go_simp; (try with_reducible rfl)
                          try simp only [Act.put, List.setIfInBounds_toArray, List.set_cons_zero, List.set_cons_succ]
                          refine wpAnyH_take (i := 11) (oi := ⟨some 63, Op.move (Operand.tmp 62), 4, _, _, _⟩) (v := ?v11f) rfl (by kernel_rfl) (by kernel_rfl) (by kernel_rfl) (fun _ _ _ h => h) (Or.inl ⟨by rfl, ?hy11f⟩) hHeld ?rest11f
                          case hy11f => intro w9 hSw; go_simp; (try with_reducible rfl)
                          try simp only [Act.put, List.setIfInBounds_toArray, List.set_cons_zero, List.set_cons_succ]
                          refine wpAnyH_take (i := 12) (oi := ⟨some 64, Op.fieldAddr 24 (Operand.tmp 1) 0, 0, _, _, _⟩) (v := ?v12f) rfl (by kernel_rfl) (by kernel_rfl) (by kernel_rfl) (fun _ _ _ h => h) (Or.inl ⟨by rfl, ?hy12f⟩) hHeld ?rest12f
                          case hy12f => intro w9 hSw; go_simp; (try with_reducible rfl)
                          try simp only [Act.put, List.setIfInBounds_toArray, List.set_cons_zero, List.set_cons_succ]
                          refine wpAnyH_take (i := 13) (oi := ⟨some 65, Op.load 3 (Operand.tmp 64), 3, _, _, _⟩) (v := ?v13f) rfl (by kernel_rfl) (by kernel_rfl) (by kernel_rfl) (fun _ _ _ h => h) (Or.inl ⟨by rfl, ?hy13f⟩) hHeld ?rest13f
                          case hy13f => intro w9 hSw; have cc := cell_later CK.out hSw; go_simp; (try with_reducible rfl)
                          try simp only [Act.put, List.setIfInBounds_toArray, List.set_cons_zero, List.set_cons_succ]
                          refine wpAnyH_take (i := 14) (oi := ⟨some 66, Op.binOp BinOp.neq 3 (Operand.tmp 65) (Operand.const (Value.int IntKind.i64 4)) 3, 4, _, _, _⟩) (v := ?v14f) rfl (by kernel_rfl) (by kernel_rfl) (by kernel_rfl) (fun _ _ _ h => h) (Or.inl ⟨by rfl, ?hy14f⟩) hHeld ?rest14f
                          case hy14f => intro w9 hSw; go_simp; (try with_reducible rfl)
                          try simp only [Act.put, List.setIfInBounds_toArray, List.set_cons_zero, List.set_cons_succ]
                          refine wpAnyH_take (i := 15) (oi := ⟨some 67, Op.move (Operand.tmp 66), 4, _, _, _⟩) (v := ?v15f) rfl (by kernel_rfl) (by kernel_rfl) (by kernel_rfl) (fun _ _ _ h => h) (Or.inl ⟨by rfl, ?hy15f⟩) hHeld ?rest15f
                          case hy15f => intro w9 hSw; go_simp; (try with_reducible rfl)
                          try simp only [Act.put, List.setIfInBounds_toArray, List.set_cons_zero, List.set_cons_succ]
                          refine wpAnyH_take (i := 16) (oi := ⟨some 68, Op.move (Operand.tmp 4), 53, _, _, _⟩) (v := ?v16f) rfl (by kernel_rfl) (by kernel_rfl) (by kernel_rfl) (fun _ _ _ h => h) (Or.inl ⟨by rfl, ?hy16f⟩) hHeld ?rest16f
                          case hy16f => intro w9 hSw; go_simp; (try with_reducible rfl)
                          try simp only [Act.put, List.setIfInBounds_toArray, List.set_cons_zero, List.set_cons_succ]
                          refine wpAnyH_take (i := 17) (oi := ⟨some 69, Op.move (Operand.tmp 7), 3, _, _, _⟩) (v := ?v17f) rfl (by kernel_rfl) (by kernel_rfl) (by kernel_rfl) (fun _ _ _ h => h) (Or.inl ⟨by rfl, ?hy17f⟩) hHeld ?rest17f
                          case hy17f => intro w9 hSw; go_simp; (try with_reducible rfl)
                          try simp only [Act.put, List.setIfInBounds_toArray, List.set_cons_zero, List.set_cons_succ]
                          refine wpAnyH_take (i := 18) (oi := ⟨some 70, Op.indexAddr 53 (Operand.tmp 68) (Operand.tmp 69), 0, _, _, _⟩) (v := ?v18f) rfl (by kernel_rfl) (by kernel_rfl) (by kernel_rfl) (fun _ _ _ h => h) (Or.inl ⟨by rfl, ?hy18f⟩) hHeld ?rest18f
                          case hy18f => intro w9 hSw; go_simp; (try with_reducible rfl)
                          try simp only [Act.put, List.setIfInBounds_toArray, List.set_cons_zero, List.set_cons_succ]
                          refine wpAnyH_take (i := 19) (oi := ⟨some 71, Op.load 56 (Operand.tmp 70), 56, _, _, _⟩) (v := ?v19f) rfl (by kernel_rfl) (by kernel_rfl) (by kernel_rfl) (fun _ _ _ h => h) (Or.inl ⟨by rfl, ?hy19f⟩) hHeld ?rest19f
                          case hy19f => intro w9 hSw; have cc0 := cell_later G0.out hSw; have cc1 := cell_later G1.out hSw; have cc2 := cell_later G2.out hSw; go_simp; (try with_reducible rfl)
                          try simp only [Act.put, List.setIfInBounds_toArray, List.set_cons_zero, List.set_cons_succ]
                          refine wpAnyH_take (i := 20) (oi := ⟨some 72, Op.move (Operand.tmp 6), 53, _, _, _⟩) (v := ?v20f) rfl (by kernel_rfl) (by kernel_rfl) (by kernel_rfl) (fun _ _ _ h => h) (Or.inl ⟨by rfl, ?hy20f⟩) hHeld ?rest20f
                          case hy20f => intro w9 hSw; go_simp; (try with_reducible rfl)
                          try simp only [Act.put, List.setIfInBounds_toArray, List.set_cons_zero, List.set_cons_succ]
                          refine wpAnyH_take (i := 21) (oi := ⟨some 73, Op.move (Operand.tmp 8), 3, _, _, _⟩) (v := ?v21f) rfl (by kernel_rfl) (by kernel_rfl) (by kernel_rfl) (fun _ _ _ h => h) (Or.inl ⟨by rfl, ?hy21f⟩) hHeld ?rest21f
                          case hy21f => intro w9 hSw; go_simp; (try with_reducible rfl)
                          try simp only [Act.put, List.setIfInBounds_toArray, List.set_cons_zero, List.set_cons_succ]
                          refine wpAnyH_take (i := 22) (oi := ⟨some 74, Op.indexAddr 53 (Operand.tmp 72) (Operand.tmp 73), 0, _, _, _⟩) (v := ?v22f) rfl (by kernel_rfl) (by kernel_rfl) (by kernel_rfl) (fun _ _ _ h => h) (Or.inl ⟨by rfl, ?hy22f⟩) hHeld ?rest22f
                          case hy22f => intro w9 hSw; go_simp; (try with_reducible rfl)
                          try simp only [Act.put, List.setIfInBounds_toArray, List.set_cons_zero, List.set_cons_succ]
                          refine wpAnyH_take (i := 23) (oi := ⟨some 75, Op.load 56 (Operand.tmp 74), 56, _, _, _⟩) (v := ?v23f) rfl (by kernel_rfl) (by kernel_rfl) (by kernel_rfl) (fun _ _ _ h => h) (Or.inl ⟨by rfl, ?hy23f⟩) hHeld ?rest23f
                          case hy23f => intro w9 hSw; have cc0 := cell_later E0.out hSw; have cc1 := cell_later E1.out hSw; have cc2 := cell_later E2.out hSw; go_simp; (try with_reducible rfl)
                          try simp only [Act.put, List.setIfInBounds_toArray, List.set_cons_zero, List.set_cons_succ]
                          refine wpAnyH_ready (rs := [24]) (by kernel_rfl) (by simp) ?_
                          refine AllReadyH.cons (o := ⟨some 76, Op.call { callee := Callee.value (Operand.func 62), args := #[Operand.tmp 71, Operand.tmp 75], argTypes := #[56, 56] }, 4, _, _, _⟩) rfl (fun K hK => ?_) AllReadyH.nil
                          go_simp
                          refine (hc.out _).mono ?_
                          rintro e x24 ⟨rfl, hN24⟩
                          go_wp2_with fail
                          have hT24 : Below wr.heap.size wr x24 := hT.trans (hN24.mono hT.size)
                          refine hK.out _ _ (hHeld.trans (hN24.mono hHeld.size)) (fun _ => held_up (S' := fun w' => Below x24.heap.size x24 w') (fun w' h' => (hHeld.trans (hN24.mono hHeld.size)).trans (h'.mono (Nat.le_trans hHeld.size hN24.size))) _ _ _ _ ?_)
                          clear hK K hHeld hT
                          have hT : Below wr.heap.size wr x24 := hT24
                          have hHeld : Below x24.heap.size x24 x24 := Below.refl _ _
                          clear hT24 hN24
                          try simp only [Act.put, List.setIfInBounds_toArray, List.set_cons_zero, List.set_cons_succ]
                          refine wpAnyH_take (i := 25) (oi := ⟨some 77, Op.unOp UnOp.not 4 (Operand.tmp 76), 4, _, _, _⟩) (v := ?v25f) rfl (by kernel_rfl) (by kernel_rfl) (by kernel_rfl) (fun _ _ _ h => h) (Or.inl ⟨by rfl, ?hy25f⟩) hHeld ?rest25f
                          case hy25f => intro w9 hSw; go_simp; (try with_reducible rfl)
                          try simp only [Act.put, List.setIfInBounds_toArray, List.set_cons_zero, List.set_cons_succ]
                          refine wpAnyH_take (i := 26) (oi := ⟨some 78, Op.pick (Operand.tmp 67) (Operand.const (Value.bool true)) (Operand.tmp 77), 4, _, _, _⟩) (v := ?v26f) rfl (by kernel_rfl) (by kernel_rfl) (by kernel_rfl) (fun _ _ _ h => h) (Or.inl ⟨by rfl, ?hy26f⟩) hHeld ?rest26f
                          case hy26f => intro w9 hSw; go_simp; (try with_reducible rfl)
                          try simp only [Act.put, List.setIfInBounds_toArray, List.set_cons_zero, List.set_cons_succ]
                          refine wpAnyH_take (i := 27) (oi := ⟨some 79, Op.pick (Operand.tmp 63) (Operand.tmp 78) (Operand.const (Value.bool false)), 4, _, _, _⟩) (v := ?v27f) rfl (by kernel_rfl) (by kernel_rfl) (by kernel_rfl) (fun _ _ _ h => h) (Or.inl ⟨by rfl, ?hy27f⟩) hHeld ?rest27f
                          case hy27f => intro w9 hSw; go_simp; (try with_reducible rfl)
                          try simp only [Act.put, List.setIfInBounds_toArray, List.set_cons_zero, List.set_cons_succ]
                          refine wpAnyH_done (by kernel_rfl) ?_ _
                          refine NoPanic.normal ?_
                          go_wp2
                          try rw [Exit.noGoto_ret]
                          go_ret
                          exact ⟨by rw [HZ0.out (by trivial)]; rfl, HWU.out.trans (hT.mono HWU.out.size)⟩
                      · have t2 : (x.k != 4) = true := by simp [ek]
                        have HE : Hid (r = false) := HFO.out fun e => ek (e es).1
                        clear es ek
                        go_wp2_with fail
                        go_quiet (fail)
                        go_wp2
                        try rw [Exit.noGoto_ret]
                        go_ret
                        exact ⟨by rw [HE.out]; rfl, bd HWU.out _⟩
                    · have t1 := str_not es
                      have HO : Hid (OkU x a b) := fun e => absurd e es
                      clear es
                      go_wp2_with fail
                      go_quiet (fail)
                      go_wp2
                      go_roundw
                      case rel => exact ⟨n + 1, HNN.out, by go_num, HNX.out HO.out, bd hBu _⟩
                      case measure => have := HNN.out; simp [intOf]; omega
                  · obtain rfl : n = V.length := by omega
                    have HAL : Hid (∀ b ∈ V, OkU x a b) := fun b hb => by
                      obtain ⟨n', h1, h2⟩ := List.getElem_of_mem hb
                      exact HK4.out n' b h1 (by rw [List.getElem?_eq_getElem h1, h2])
                    go_wp2
                    go_roundw
                    case rel =>
                      refine ⟨m + 1, HMN.out, by go_num, fun m' a' h1 h2 => ?_, hb4⟩
                      by_cases e : m' = m
                      · rw [e, HMA.out] at h2; cases h2; exact HAL.out
                      · exact HK3.out m' a' (by omega) h2
                    case measure => have := HMN.out; simp [intOf]; omega
              · obtain rfl : m = U.length := by omega
                go_wp2
                go_roundw
                case rel =>
                  refine ⟨j + 1, HJI.out, by go_num, fun j' h a ha b hb => ?_, HB34.out.trans (hBt.mono HB34.out.size)⟩
                  by_cases e : j' = j
                  · rw [e, ← HV.out] at hb
                    obtain ⟨m', h1, h2⟩ := List.getElem_of_mem ha
                    exact HK3.out m' a h1 (by rw [List.getElem?_eq_getElem h1, h2]) b hb
                  · exact HK2.out j' (by omega) a ha b hb
                case measure => have := HJI.out; simp [intOf]; omega
          · obtain rfl : j = i := by omega
            go_wp2
            go_roundw
            case rel =>
              refine ⟨j + 1, HIN.out, by go_num, fun i' h => ?_, HB3.out.trans (hBs.mono HB3.out.size)⟩
              by_cases e : i' = j
              · rw [e, ← HU.out]; exact ⟨HOI.out, HK2.out⟩
              · exact HK.out i' (by omega)
            case measure => have := HIN.out; simp [intOf]; omega
      · have e1 : onceB (x.c i) = false := onceB_no ho
        rw [e1] at hc
        have HE : Hid (r = false) := HF1.out i hin ho
        clear ho e1
        go_wp2_with (first | (go_at_call 39; refine hc.mono ?_; clear hc; rintro e w2 ⟨rfl, hB2⟩))
        try rw [Exit.noGoto_ret]
        go_ret
        exact ⟨by rw [HE.out]; rfl, HWR.out.trans (hB2.mono HWR.out.size)⟩
    · obtain rfl : i = x.n := by omega
      go_wp2
      go_ret
      exact ⟨by rw [HT.out HK.out]; rfl, hw⟩
theorem refOnce_any : ∀ (x : Pt) (w : World), IsP w x → x.size ≤ 1048576 → Calls Try.prog 39 #[x.val] w fun e w' => e = .returned (.bool (onceB x)) ∧ Below w.heap.size w w' := by
  refine Pt.ind fun x ih w hX hsm => ?_
  exact refOnce_step x w hX hsm fun i hi w' h => ih i hi w' h (by have := x.size_part i hi; omega)
end Go.Proofs.Ytinnhaojmnmliaa
