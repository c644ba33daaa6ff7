/-
  The document's own once: does each name stand once, but in parts of a POr?
  The document's own nots: do the PNots stand where they may?
-/
import Derived.Test.YtfnfegcjgnbgbaaGreatDoorTBrief
import Derived.Test.YtfnfegcjgnbgbaaGreatDoorTPatUses
import Derived.Deep.RegionWith
namespace Go.Proofs.YtfnfegcjgnbgbaaGreatDoor
open Go.RowKit

abbrev useV (y : Pt) : Value := .agg #[.string y.s, .string y.t, .int .i64 y.k]
def agreeB (a b : Pt) : Bool := decide (a.t = b.t) && ((a.k == 6) == (b.k == 6))
theorem agreeB_iff (a b : Pt) : agreeB a b = true ↔ Agree a b := by
  unfold agreeB Agree
  have e1 : (a.k == 6) = decide (a.k = 6) := by by_cases h : a.k = 6 <;> simp [h]
  have e2 : (b.k == 6) = decide (b.k = 6) := by by_cases h : b.k = 6 <;> simp [h]
  rw [e1, e2]
  by_cases h1 : a.k = 6 <;> by_cases h2 : b.k = 6 <;> simp [h1, h2]
theorem boxU_two (x y : Pt) (w : World) : ∃ A, (w.alloc (.cells #[.string x.s, .string x.t, .int .i64 x.k] 118)).alloc (.cells #[.string y.s, .string y.t, .int .i64 y.k] 118) = A ∧ Below w.heap.size w A ∧
    (A.cell? ⟨w.heap.size, 1, none⟩ = some (.string x.t) ∧ A.cell? ⟨w.heap.size, 2, none⟩ = some (.int .i64 x.k)) ∧ A.cell? ⟨w.heap.size + 1, 1, none⟩ = some (.string y.t) ∧ A.cell? ⟨w.heap.size + 1, 2, none⟩ = some (.int .i64 y.k) := by
  have h1 : ((w.alloc (.cells #[.string x.s, .string x.t, .int .i64 x.k] 118)).alloc (.cells #[.string y.s, .string y.t, .int .i64 y.k] 118)).heap[w.heap.size]? = some (.cells #[.string x.s, .string x.t, .int .i64 x.k] 118 (0, 0)) := (alloc_old (by simp)).trans (alloc_new w _)
  have h2 : ((w.alloc (.cells #[.string x.s, .string x.t, .int .i64 x.k] 118)).alloc (.cells #[.string y.s, .string y.t, .int .i64 y.k] 118)).heap[w.heap.size + 1]? = some (.cells #[.string y.s, .string y.t, .int .i64 y.k] 118 (0, 0)) := alloc2_new _ _ _
  refine ⟨_, rfl, ((Below.refl _ w).alloc (Nat.le_refl _) _).alloc (by simp) _, ⟨?_, ?_⟩, ?_, ?_⟩
  · simp only [World.cell?, h1]; rfl
  · simp only [World.cell?, h1]; rfl
  · simp only [World.cell?, h2]; rfl
  · simp only [World.cell?, h2]; rfl
set_option maxRecDepth 100000 in
theorem refAgree_any (x y : Pt) (w : World) : Calls Tryz.prog 87 #[useV x, useV y] w fun e w' => e = .returned (.bool (agreeB x y)) ∧ Below w.heap.size w w' := by
  obtain ⟨A, hA, hB, ⟨a1, a2⟩, b1, b2⟩ := boxU_two x y w
  have HB : Hid (Below w.heap.size w A) := hB
  clear hB
  by_cases e : x.t = y.t
  · have t := str_yes e
    have HR : Hid (agreeB x y = ((x.k == 6) == (y.k == 6))) := by show _ = _; unfold agreeB; rw [decide_eq_true e, Bool.true_and]
    clear e
    go_enter Tryz.func87, Tryz.ntmps87
    go_wp2
    go_ret
    exact ⟨by rw [HR.out]; rfl, HB.out⟩
  · have t := str_not e
    have HR : Hid (agreeB x y = false) := by show _ = _; unfold agreeB; rw [decide_eq_false e, Bool.false_and]
    clear e
    go_enter Tryz.func87, Tryz.ntmps87
    go_wp2
    go_ret
    exact ⟨by rw [HR.out]; rfl, HB.out⟩
/-- What two uses in two parts have to be. -/
def OkU (x a b : Pt) : Prop := a.s = b.s → x.k = 4 ∧ Agree a b
open Classical in
noncomputable def oncePB (x : Pt) : Bool := if OnceP x then true else false
theorem oncePB_yes {x : Pt} (h : OnceP x) : oncePB x = true := if_pos h
theorem oncePB_no {x : Pt} (h : ¬ OnceP x) : oncePB x = false := if_neg h
set_option maxRecDepth 100000 in
set_option maxHeartbeats 16000000 in
theorem refOnce_step (x : Pt) (w : World) (hX : IsP w x) (hsm : x.size ≤ 1048576) (ih : ∀ i, i < x.n → ∀ w : World, IsP w (x.c i) → Calls Tryz.prog 65 #[(x.c i).val] w fun e w' => e = .returned (.bool (oncePB (x.c i))) ∧ Below w.heap.size w w') :
    Calls Tryz.prog 65 #[x.val] w fun e w' => e = .returned (.bool (oncePB x)) ∧ Below w.heap.size w w' := by
  obtain ⟨r, hr⟩ : ∃ r, r = oncePB x := ⟨_, rfl⟩
  have HF1 : Hid (∀ i, i < x.n → ¬ OnceP (x.c i) → r = false) := fun i hi h => by
    rw [hr]
    refine oncePB_no ?_
    rw [onceP_eq]
    exact fun e => h (e i hi).1
  have HF2 : Hid (∀ i, i < x.n → ∀ j, j < i → ∀ a ∈ usesP (x.c i), ∀ b ∈ usesP (x.c j), ¬ OkU x a b → r = false) := fun i hi j hj a ha b hb h => by
    rw [hr]
    refine oncePB_no ?_
    rw [onceP_eq]
    exact fun e => h ((e i hi).2 j hj a ha b hb)
  have HT : Hid ((∀ i, i < x.n → OnceP (x.c i) ∧ ∀ j, j < i → ∀ a ∈ usesP (x.c i), ∀ b ∈ usesP (x.c j), OkU x a b) → r = true) := fun h => by
    rw [hr]
    refine oncePB_yes ?_
    rw [onceP_eq]
    exact h
  rw [← hr]
  obtain ⟨A, hA, hB, hs, hn⟩ := boxP_one x w
  obtain ⟨a0, a1, a2, a3, a4, a5⟩ := hn.at0
  have HB : Hid (Below w.heap.size w A) := hB
  have HN : Hid (NodeP A w.heap.size 0 x) := hn
  have HX : Hid (IsP w x) := hX
  have hlen := hX.len
  have HI : Hid (∀ i, i < x.n → ∀ W, Below w.heap.size w W → Calls Tryz.prog 65 #[(x.c i).val] W fun e w' => e = .returned (.bool (oncePB (x.c i))) ∧ Below W.heap.size W w') := fun i hi W hW => by
    obtain ⟨_, _, _, _, h1⟩ := (hX.later hW).part hi
    exact ih i hi W h1
  have HUS : Hid (∀ i, i < x.n → ∀ W, Below w.heap.size w W → Calls Tryz.prog 86 #[(x.c i).val] W fun e w' => ∃ a cap, e = .returned (.slice a (usesP (x.c i)).length cap) ∧ Hid (∀ (j : Nat) (y : Pt), (usesP (x.c i))[j]? = some y → ∃ g, a = some ⟨g, 0, none⟩ ∧ w'.cell? ⟨g, j * 3, none⟩ = some (.string y.s) ∧ w'.cell? ⟨g, j * 3 + 1, none⟩ = some (.string y.t) ∧ w'.cell? ⟨g, j * 3 + 2, none⟩ = some (.int .i64 y.k)) ∧ Below W.heap.size W w') := fun i hi W hW => by
    obtain ⟨_, _, _, _, h1⟩ := (hX.later hW).part hi
    refine (refUses_any (x.c i) W h1 (by have := x.size_part i hi; omega)).mono ?_
    rintro e w' ⟨v, rfl, hv, hB'⟩
    obtain ⟨a, cap, rfl, -, -, -, hc⟩ := own_uses hv
    refine ⟨a, cap, rfl, fun j y hy => ?_, hB'⟩
    obtain ⟨g, e1, _, _, c0, c1, c2⟩ := hc j y hy
    exact ⟨g, e1, c0, c1, c2⟩
  have HUL : Hid (∀ i, i < x.n → (usesP (x.c i)).length ≤ 1048576) := fun i hi => by have := length_uses (x.c i); have := x.size_part i hi; omega
  clear hB hn hX ih hs hsm hr
  go_enter Tryz.func65, Tryz.ntmps65
  go_wp2_with fail
  clear a0 a1 a2 a3 a4 a5 hA
  go_loopw [3] (fun iv wr => ∃ i : Nat, i ≤ x.n ∧ iv = .int .i64 i ∧ Hid (∀ i', i' < i → OnceP (x.c i') ∧ ∀ j, j < i' → ∀ a ∈ usesP (x.c i'), ∀ b ∈ usesP (x.c j), OkU x a b) ∧ Below A.heap.size A wr) (fun iv _ => x.n - (intOf iv).toNat)
  case atStart => exact ⟨0, Nat.zero_le _, rfl, fun i' h => absurd h (Nat.not_lt_zero _), Below.refl _ _⟩
  case round =>
    obtain ⟨i, hi, rfl, HK, hBr⟩ := hrel
    have hw := HB.out.trans (hBr.mono HB.out.size)
    obtain ⟨c0, c1, c2, c3, c4, c5⟩ := (HN.out.later hBr).at0
    by_cases hin : i < x.n
    · obtain ⟨b, o, ea, hn, -⟩ := (HX.out.later hw).part hin
      rw [ea] at c5
      obtain ⟨d0, d1, d2, d3, d4, d5⟩ := hn
      have hc := HI.out i hin wr hw
      have HIN : Hid (i < x.n) := hin
      have HWR : Hid (Below w.heap.size w wr) := hw
      clear hw ea
      by_cases ho : OnceP (x.c i)
      · have e1 : oncePB (x.c i) = true := oncePB_yes ho
        rw [e1] at hc
        have HOI : Hid (OnceP (x.c i)) := ho
        have hcu := HUS.out i hin
        have HND : Hid (NodeP wr b (o + i * 6) (x.c i)) := ⟨d0, d1, d2, d3, d4, d5⟩
        have C5 : Hid (wr.cell? ⟨w.heap.size, 5, none⟩ = some (.slice (some ⟨b, o, none⟩) x.n x.cap)) := c5
        clear ho e1
        go_wp2_with (first
          | (go_at_call 65; refine hc.mono ?_; clear hc; rintro e w2 ⟨rfl, hB2⟩; have c5' := cell_later C5.out hB2; obtain ⟨f0, f1, f2, f3, f4, f5⟩ := HND.out.later hB2; have hw2 := HWR.out.trans (hB2.mono HWR.out.size))
          | (go_at_call 86; refine (hcu w2 hw2).mono ?_; clear hcu; rintro e w3 ⟨au, capu, rfl, hau, hB3⟩))
        have hw3 := hw2.trans (hB3.mono hw2.size)
        have HW3 : Hid (Below w.heap.size w w3) := hw3
        have HB3 : Hid (Below A.heap.size A w3) := (hBr.trans (hB2.mono hBr.size)).trans (hB3.mono (Nat.le_trans hBr.size hB2.size))
        have hAL := HUL.out i hin
        have HIO : Hid (∀ j, j < i → j < x.n) := fun j hj => by have := HIN.out; omega
        clear hw3 hw2 hB2 hB3 c0 c1 c2 c3 c4 c5 c5' d0 d1 d2 d3 d4 d5 f0 f1 f2 f3 f4 f5 C5 HND hBr
        obtain ⟨U, hU⟩ : ∃ U, U = usesP (x.c i) := ⟨_, rfl⟩
        rw [← hU] at hau hAL ⊢
        have HU : Hid (U = usesP (x.c i)) := hU
        clear hU
        go_loopw [5] (fun jv ws => ∃ j : Nat, j ≤ i ∧ jv = .int .i64 j ∧ Hid (∀ j', j' < j → ∀ a ∈ U, ∀ b ∈ usesP (x.c j'), OkU x a b) ∧ Below w3.heap.size w3 ws) (fun jv _ => i - (intOf jv).toNat)
        case atStart => exact ⟨0, Nat.zero_le _, rfl, fun j' h => absurd h (Nat.not_lt_zero _), Below.refl _ _⟩
        case round =>
          obtain ⟨j, hj, rfl, HK2, hBs⟩ := hrel
          have hws := HW3.out.trans (hBs.mono HW3.out.size)
          by_cases hji : j < i
          · have hjn := HIO.out j hji
            obtain ⟨b, o, ea, hn, -⟩ := (HX.out.later hws).part hjn
            have c5 := ((HN.out.later HB3.out).later hBs).at0.2.2.2.2.2
            rw [ea] at c5
            obtain ⟨d0, d1, d2, d3, d4, d5⟩ := hn
            have hcu := HUS.out j hjn wr hws
            have hBL := HUL.out j hjn
            have HJI : Hid (j < i) := hji
            have HWS : Hid (Below w.heap.size w wr) := hws
            clear ea hws
            go_wp2_with (first
              | (go_at_call 86; refine hcu.mono ?_; clear hcu; rintro e w4 ⟨bu, capb, rfl, hbu, hB4⟩))
            have HW4 : Hid (Below w.heap.size w w4) := HWS.out.trans (hB4.mono HWS.out.size)
            have HB34 : Hid (Below w3.heap.size w3 w4) := hBs.trans (hB4.mono hBs.size)
            clear c5 d0 d1 d2 d3 d4 d5 hB4 hBs HWS
            obtain ⟨V, hV⟩ : ∃ V, V = usesP (x.c j) := ⟨_, rfl⟩
            rw [← hV] at hbu hBL ⊢
            have HV : Hid (V = usesP (x.c j)) := hV
            have HFF : Hid (∀ a ∈ U, ∀ b ∈ V, ¬ OkU x a b → r = false) := fun a ha b hb h => HF2.out i HIN.out j HJI.out a (HU.out ▸ ha) b (HV.out ▸ hb) h
            clear hV
            go_loopw [7] (fun mv wt => ∃ m : Nat, m ≤ U.length ∧ mv = .int .i64 m ∧ Hid (∀ m' a, m' < m → U[m']? = some a → ∀ b ∈ V, OkU x a b) ∧ Below w4.heap.size w4 wt) (fun mv _ => U.length - (intOf mv).toNat)
            case atStart => exact ⟨0, Nat.zero_le _, rfl, fun m' a h => absurd h (Nat.not_lt_zero _), Below.refl _ _⟩
            case round =>
              obtain ⟨m, hm, rfl, HK3, hBt⟩ := hrel
              by_cases hmn : m < U.length
              · obtain ⟨a, ha⟩ : ∃ a, U[m]? = some a := ⟨U[m]'hmn, List.getElem?_eq_getElem _⟩
                have HMN : Hid (m < U.length) := hmn
                have HMA : Hid (U[m]? = some a) := ha
                have haU : a ∈ U := by obtain ⟨h, e⟩ := List.getElem?_eq_some_iff.1 ha; rw [← e]; exact List.getElem_mem h
                have HAU : Hid (a ∈ U) := haU
                obtain ⟨ga, rfl, p0, p1, p2⟩ := hau.out m a ha
                have HPA : Hid (w3.cell? ⟨ga, m * 3, none⟩ = some (.string a.s) ∧ w3.cell? ⟨ga, m * 3 + 1, none⟩ = some (.string a.t) ∧ w3.cell? ⟨ga, m * 3 + 2, none⟩ = some (.int .i64 a.k)) := ⟨p0, p1, p2⟩
                clear ha haU p0 p1 p2
                go_wp2_with fail
                have hBt0 := hBt
                clear hBt
                obtain ⟨w5, hw5⟩ : ∃ w5, w5 = wr := ⟨_, rfl⟩
                rw [← hw5] at hBt0 ⊢
                clear hw5
                go_loopw [8] (fun nv wu => ∃ n : Nat, n ≤ V.length ∧ nv = .int .i64 n ∧ Hid (∀ n' b, n' < n → V[n']? = some b → OkU x a b) ∧ Below w5.heap.size w5 wu) (fun nv _ => V.length - (intOf nv).toNat)
                case atStart => exact ⟨0, Nat.zero_le _, rfl, fun n' b h => absurd h (Nat.not_lt_zero _), Below.refl _ _⟩
                case round =>
                  obtain ⟨n, hn, rfl, HK4, hBu⟩ := hrel
                  have hb4 := hBt0.trans (hBu.mono hBt0.size)
                  have hb3 := HB34.out.trans (hb4.mono HB34.out.size)
                  by_cases hnn : n < V.length
                  · obtain ⟨b, hb⟩ : ∃ b, V[n]? = some b := ⟨V[n]'hnn, List.getElem?_eq_getElem _⟩
                    have HNN : Hid (n < V.length) := hnn
                    have HNB : Hid (V[n]? = some b) := hb
                    have hbV : b ∈ V := by obtain ⟨h, e⟩ := List.getElem?_eq_some_iff.1 hb; rw [← e]; exact List.getElem_mem h
                    obtain ⟨gb, rfl, q0, q1, q2⟩ := hbu.out n b hb
                    have e0 := cell_later q0 hb4
                    have e1 := cell_later q1 hb4
                    have e2 := cell_later q2 hb4
                    have g0 := cell_later HPA.out.1 hb3
                    have g1 := cell_later HPA.out.2.1 hb3
                    have g2 := cell_later HPA.out.2.2 hb3
                    have ck := ((HN.out.later HB3.out).later hb3).at0.1
                    have HFO : Hid (¬ OkU x a b → r = false) := HFF.out a HAU.out b hbV
                    have HWU : Hid (Below w.heap.size w wr) := HW3.out.trans (hb3.mono HW3.out.size)
                    have HNX : Hid (OkU x a b → ∀ n' b', n' < n + 1 → V[n']? = some b' → OkU x a b') := fun ho n' b' h1 h2 => by
                      by_cases e : n' = n
                      · rw [e, HNB.out] at h2; cases h2; exact ho
                      · exact HK4.out n' b' (by omega) h2
                    clear hb hbV q0 q1 q2 hb3 hb4
                    by_cases es : a.s = b.s
                    · have t1 := str_yes es
                      by_cases ek : x.k = 4
                      · have t2 : (x.k != 4) = false := by simp [ek]
                        obtain ⟨z, hz⟩ : ∃ z, z = agreeB a b := ⟨_, rfl⟩
                        have hc : Hid (∀ d, Calls Tryz.prog 87 #[useV a, useV b] d fun e w' => e = .returned (.bool z) ∧ Below d.heap.size d w') := fun d => by rw [hz]; exact refAgree_any a b d
                        have HZ1 : Hid (z = true → OkU x a b) := fun h _ => ⟨ek, (agreeB_iff a b).1 (hz ▸ h)⟩
                        have HZ0 : Hid (z = false → r = false) := fun h => HFO.out fun e => by
                          have := (agreeB_iff a b).2 (e es).2
                          rw [← hz, h] at this; cases this
                        have E0 : Hid _ := e0
                        have E1 : Hid _ := e1
                        have E2 : Hid _ := e2
                        have G0 : Hid _ := g0
                        have G1 : Hid _ := g1
                        have G2 : Hid _ := g2
                        have CK : Hid _ := ck
                        clear es ek hz e0 e1 e2 g0 g1 g2 ck
                        cases z with
                        | true =>
                          go_wp2_with fail
                          refine wp_region_noPanic ?_
                          refine wp_region_held_drew (S := fun w' => Below wr.heap.size wr w') (by kernel_rfl) ((Below.refl _ _).drew) (fun hHeld => ?_)
                          have hT : Below wr.heap.size wr wr.drew := hHeld
                          obtain ⟨d, hdw⟩ : ∃ d, d = wr.drew := ⟨_, rfl⟩
                          rw [← hdw] at hHeld hT ⊢
                          clear hdw
                          refine wpAnyH_take (i := 0) (oi := ⟨some 52, .move (.tmp 4), 115, _, _, _⟩) (v := ?v0t) rfl (by kernel_rfl) (by kernel_rfl) (by kernel_rfl) (fun _ _ _ h => h) (Or.inl ⟨by rfl, ?hy0t⟩) hHeld ?rest0t
                          case hy0t => intro w9 hSw; go_simp; (try with_reducible rfl)
                          try simp only [Act.put, s_put, s_0, s_1]
                          refine wpAnyH_take (i := 1) (oi := ⟨some 53, .move (.tmp 7), 3, _, _, _⟩) (v := ?v1t) rfl (by kernel_rfl) (by kernel_rfl) (by kernel_rfl) (fun _ _ _ h => h) (Or.inl ⟨by rfl, ?hy1t⟩) hHeld ?rest1t
                          case hy1t => intro w9 hSw; go_simp; (try with_reducible rfl)
                          try simp only [Act.put, s_put, s_0, s_1]
                          refine wpAnyH_take (i := 2) (oi := ⟨some 54, .indexAddr 115 (.tmp 52) (.tmp 53), 0, _, _, _⟩) (v := ?v2t) rfl (by kernel_rfl) (by kernel_rfl) (by kernel_rfl) (fun _ _ _ h => h) (Or.inl ⟨by rfl, ?hy2t⟩) hHeld ?rest2t
                          case hy2t => intro w9 hSw; go_simp; (try with_reducible rfl)
                          try simp only [Act.put, s_put, s_0, s_1]
                          refine wpAnyH_take (i := 3) (oi := ⟨some 55, .fieldAddr 118 (.tmp 54) 0, 0, _, _, _⟩) (v := ?v3t) rfl (by kernel_rfl) (by kernel_rfl) (by kernel_rfl) (fun _ _ _ h => h) (Or.inl ⟨by rfl, ?hy3t⟩) hHeld ?rest3t
                          case hy3t => intro w9 hSw; go_simp; (try with_reducible rfl)
                          try simp only [Act.put, s_put, s_0, s_1]
                          refine wpAnyH_take (i := 4) (oi := ⟨some 56, .load 9 (.tmp 55), 9, _, _, _⟩) (v := ?v4t) rfl (by kernel_rfl) (by kernel_rfl) (by kernel_rfl) (fun _ _ _ h => h) (Or.inl ⟨by rfl, ?hy4t⟩) hHeld ?rest4t
                          case hy4t => intro w9 hSw; have cc := cell_later G0.out hSw; go_simp; (try with_reducible rfl)
                          try simp only [Act.put, s_put, s_0, s_1]
                          refine wpAnyH_take (i := 5) (oi := ⟨some 57, .move (.tmp 6), 115, _, _, _⟩) (v := ?v5t) rfl (by kernel_rfl) (by kernel_rfl) (by kernel_rfl) (fun _ _ _ h => h) (Or.inl ⟨by rfl, ?hy5t⟩) hHeld ?rest5t
                          case hy5t => intro w9 hSw; go_simp; (try with_reducible rfl)
                          try simp only [Act.put, s_put, s_0, s_1]
                          refine wpAnyH_take (i := 6) (oi := ⟨some 58, .move (.tmp 8), 3, _, _, _⟩) (v := ?v6t) rfl (by kernel_rfl) (by kernel_rfl) (by kernel_rfl) (fun _ _ _ h => h) (Or.inl ⟨by rfl, ?hy6t⟩) hHeld ?rest6t
                          case hy6t => intro w9 hSw; go_simp; (try with_reducible rfl)
                          try simp only [Act.put, s_put, s_0, s_1]
                          refine wpAnyH_take (i := 7) (oi := ⟨some 59, .indexAddr 115 (.tmp 57) (.tmp 58), 0, _, _, _⟩) (v := ?v7t) rfl (by kernel_rfl) (by kernel_rfl) (by kernel_rfl) (fun _ _ _ h => h) (Or.inl ⟨by rfl, ?hy7t⟩) hHeld ?rest7t
                          case hy7t => intro w9 hSw; go_simp; (try with_reducible rfl)
                          try simp only [Act.put, s_put, s_0, s_1]
                          refine wpAnyH_take (i := 8) (oi := ⟨some 60, .fieldAddr 118 (.tmp 59) 0, 0, _, _, _⟩) (v := ?v8t) rfl (by kernel_rfl) (by kernel_rfl) (by kernel_rfl) (fun _ _ _ h => h) (Or.inl ⟨by rfl, ?hy8t⟩) hHeld ?rest8t
                          case hy8t => intro w9 hSw; go_simp; (try with_reducible rfl)
                          try simp only [Act.put, s_put, s_0, s_1]
                          refine wpAnyH_take (i := 9) (oi := ⟨some 61, .load 9 (.tmp 60), 9, _, _, _⟩) (v := ?v9t) rfl (by kernel_rfl) (by kernel_rfl) (by kernel_rfl) (fun _ _ _ h => h) (Or.inl ⟨by rfl, ?hy9t⟩) hHeld ?rest9t
                          case hy9t => intro w9 hSw; have cc := cell_later E0.out hSw; go_simp; (try with_reducible rfl)
                          try simp only [Act.put, s_put, s_0, s_1]
                          refine wpAnyH_take (i := 10) (oi := ⟨some 62, .binOp BinOp.eql 9 (.tmp 56) (.tmp 61) 9, 4, _, _, _⟩) (v := ?v10t) rfl (by kernel_rfl) (by kernel_rfl) (by kernel_rfl) (fun _ _ _ h => h) (Or.inl ⟨by rfl, ?hy10t⟩) hHeld ?rest10t
                          case hy10t => intro w9 hSw; go_simp; (try with_reducible rfl)
                          try simp only [Act.put, s_put, s_0, s_1]
                          refine wpAnyH_take (i := 11) (oi := ⟨some 63, .move (.tmp 62), 4, _, _, _⟩) (v := ?v11t) rfl (by kernel_rfl) (by kernel_rfl) (by kernel_rfl) (fun _ _ _ h => h) (Or.inl ⟨by rfl, ?hy11t⟩) hHeld ?rest11t
                          case hy11t => intro w9 hSw; go_simp; (try with_reducible rfl)
                          try simp only [Act.put, s_put, s_0, s_1]
                          refine wpAnyH_take (i := 12) (oi := ⟨some 64, .fieldAddr 24 (.tmp 1) 0, 0, _, _, _⟩) (v := ?v12t) rfl (by kernel_rfl) (by kernel_rfl) (by kernel_rfl) (fun _ _ _ h => h) (Or.inl ⟨by rfl, ?hy12t⟩) hHeld ?rest12t
                          case hy12t => intro w9 hSw; go_simp; (try with_reducible rfl)
                          try simp only [Act.put, s_put, s_0, s_1]
                          refine wpAnyH_take (i := 13) (oi := ⟨some 65, .load 3 (.tmp 64), 3, _, _, _⟩) (v := ?v13t) rfl (by kernel_rfl) (by kernel_rfl) (by kernel_rfl) (fun _ _ _ h => h) (Or.inl ⟨by rfl, ?hy13t⟩) hHeld ?rest13t
                          case hy13t => intro w9 hSw; have cc := cell_later CK.out hSw; go_simp; (try with_reducible rfl)
                          try simp only [Act.put, s_put, s_0, s_1]
                          refine wpAnyH_take (i := 14) (oi := ⟨some 66, .binOp BinOp.neq 3 (.tmp 65) (.const (Value.int IntKind.i64 4)) 3, 4, _, _, _⟩) (v := ?v14t) rfl (by kernel_rfl) (by kernel_rfl) (by kernel_rfl) (fun _ _ _ h => h) (Or.inl ⟨by rfl, ?hy14t⟩) hHeld ?rest14t
                          case hy14t => intro w9 hSw; go_simp; (try with_reducible rfl)
                          try simp only [Act.put, s_put, s_0, s_1]
                          refine wpAnyH_take (i := 15) (oi := ⟨some 67, .move (.tmp 66), 4, _, _, _⟩) (v := ?v15t) rfl (by kernel_rfl) (by kernel_rfl) (by kernel_rfl) (fun _ _ _ h => h) (Or.inl ⟨by rfl, ?hy15t⟩) hHeld ?rest15t
                          case hy15t => intro w9 hSw; go_simp; (try with_reducible rfl)
                          try simp only [Act.put, s_put, s_0, s_1]
                          refine wpAnyH_take (i := 16) (oi := ⟨some 68, .move (.tmp 4), 115, _, _, _⟩) (v := ?v16t) rfl (by kernel_rfl) (by kernel_rfl) (by kernel_rfl) (fun _ _ _ h => h) (Or.inl ⟨by rfl, ?hy16t⟩) hHeld ?rest16t
                          case hy16t => intro w9 hSw; go_simp; (try with_reducible rfl)
                          try simp only [Act.put, s_put, s_0, s_1]
                          refine wpAnyH_take (i := 17) (oi := ⟨some 69, .move (.tmp 7), 3, _, _, _⟩) (v := ?v17t) rfl (by kernel_rfl) (by kernel_rfl) (by kernel_rfl) (fun _ _ _ h => h) (Or.inl ⟨by rfl, ?hy17t⟩) hHeld ?rest17t
                          case hy17t => intro w9 hSw; go_simp; (try with_reducible rfl)
                          try simp only [Act.put, s_put, s_0, s_1]
                          refine wpAnyH_take (i := 18) (oi := ⟨some 70, .indexAddr 115 (.tmp 68) (.tmp 69), 0, _, _, _⟩) (v := ?v18t) rfl (by kernel_rfl) (by kernel_rfl) (by kernel_rfl) (fun _ _ _ h => h) (Or.inl ⟨by rfl, ?hy18t⟩) hHeld ?rest18t
                          case hy18t => intro w9 hSw; go_simp; (try with_reducible rfl)
                          try simp only [Act.put, s_put, s_0, s_1]
                          refine wpAnyH_take (i := 19) (oi := ⟨some 71, .load 118 (.tmp 70), 118, _, _, _⟩) (v := ?v19t) rfl (by kernel_rfl) (by kernel_rfl) (by kernel_rfl) (fun _ _ _ h => h) (Or.inl ⟨by rfl, ?hy19t⟩) hHeld ?rest19t
                          case hy19t => intro w9 hSw; have cc0 := cell_later G0.out hSw; have cc1 := cell_later G1.out hSw; have cc2 := cell_later G2.out hSw; go_simp; (try with_reducible rfl)
                          try simp only [Act.put, s_put, s_0, s_1]
                          refine wpAnyH_take (i := 20) (oi := ⟨some 72, .move (.tmp 6), 115, _, _, _⟩) (v := ?v20t) rfl (by kernel_rfl) (by kernel_rfl) (by kernel_rfl) (fun _ _ _ h => h) (Or.inl ⟨by rfl, ?hy20t⟩) hHeld ?rest20t
                          case hy20t => intro w9 hSw; go_simp; (try with_reducible rfl)
                          try simp only [Act.put, s_put, s_0, s_1]
                          refine wpAnyH_take (i := 21) (oi := ⟨some 73, .move (.tmp 8), 3, _, _, _⟩) (v := ?v21t) rfl (by kernel_rfl) (by kernel_rfl) (by kernel_rfl) (fun _ _ _ h => h) (Or.inl ⟨by rfl, ?hy21t⟩) hHeld ?rest21t
                          case hy21t => intro w9 hSw; go_simp; (try with_reducible rfl)
                          try simp only [Act.put, s_put, s_0, s_1]
                          refine wpAnyH_take (i := 22) (oi := ⟨some 74, .indexAddr 115 (.tmp 72) (.tmp 73), 0, _, _, _⟩) (v := ?v22t) rfl (by kernel_rfl) (by kernel_rfl) (by kernel_rfl) (fun _ _ _ h => h) (Or.inl ⟨by rfl, ?hy22t⟩) hHeld ?rest22t
                          case hy22t => intro w9 hSw; go_simp; (try with_reducible rfl)
                          try simp only [Act.put, s_put, s_0, s_1]
                          refine wpAnyH_take (i := 23) (oi := ⟨some 75, .load 118 (.tmp 74), 118, _, _, _⟩) (v := ?v23t) rfl (by kernel_rfl) (by kernel_rfl) (by kernel_rfl) (fun _ _ _ h => h) (Or.inl ⟨by rfl, ?hy23t⟩) hHeld ?rest23t
                          case hy23t => intro w9 hSw; have cc0 := cell_later E0.out hSw; have cc1 := cell_later E1.out hSw; have cc2 := cell_later E2.out hSw; go_simp; (try with_reducible rfl)
                          try simp only [Act.put, s_put, s_0, s_1]
                          refine wpAnyH_ready (rs := [24]) (by kernel_rfl) (by simp) ?_
                          refine AllReadyH.cons (o := ⟨some 76, .call { callee := .value (.func 87), args := #[.tmp 71, .tmp 75], argTypes := #[118, 118] }, 4, _, _, _⟩) rfl (fun K hK => ?_) AllReadyH.nil
                          go_simp
                          refine (hc.out _).mono ?_
                          rintro e x24 ⟨rfl, hN24⟩
                          go_wp2_with fail
                          have hT24 : Below wr.heap.size wr x24 := hT.trans (hN24.mono hT.size)
                          refine hK.out _ _ (hHeld.trans (hN24.mono hHeld.size)) (fun _ => held_up (S' := fun w' => Below x24.heap.size x24 w') (fun w' h' => (hHeld.trans (hN24.mono hHeld.size)).trans (h'.mono (Nat.le_trans hHeld.size hN24.size))) _ _ _ _ ?_)
                          clear hK K hHeld hT
                          have hT : Below wr.heap.size wr x24 := hT24
                          have hHeld : Below x24.heap.size x24 x24 := Below.refl _ _
                          clear hT24 hN24
                          try simp only [Act.put, s_put, s_0, s_1]
                          refine wpAnyH_take (i := 25) (oi := ⟨some 77, .unOp UnOp.not 4 (.tmp 76), 4, _, _, _⟩) (v := ?v25t) rfl (by kernel_rfl) (by kernel_rfl) (by kernel_rfl) (fun _ _ _ h => h) (Or.inl ⟨by rfl, ?hy25t⟩) hHeld ?rest25t
                          case hy25t => intro w9 hSw; go_simp; (try with_reducible rfl)
                          try simp only [Act.put, s_put, s_0, s_1]
                          refine wpAnyH_take (i := 26) (oi := ⟨some 78, .pick (.tmp 67) (.const (Value.bool true)) (.tmp 77), 4, _, _, _⟩) (v := ?v26t) rfl (by kernel_rfl) (by kernel_rfl) (by kernel_rfl) (fun _ _ _ h => h) (Or.inl ⟨by rfl, ?hy26t⟩) hHeld ?rest26t
                          case hy26t => intro w9 hSw; go_simp; (try with_reducible rfl)
                          try simp only [Act.put, s_put, s_0, s_1]
                          refine wpAnyH_take (i := 27) (oi := ⟨some 79, .pick (.tmp 63) (.tmp 78) (.const (Value.bool false)), 4, _, _, _⟩) (v := ?v27t) rfl (by kernel_rfl) (by kernel_rfl) (by kernel_rfl) (fun _ _ _ h => h) (Or.inl ⟨by rfl, ?hy27t⟩) hHeld ?rest27t
                          case hy27t => intro w9 hSw; go_simp; (try with_reducible rfl)
                          try simp only [Act.put, s_put, s_0, s_1]
                          refine wpAnyH_done (by kernel_rfl) ?_ _
                          refine NoPanic.normal ?_
                          go_wp2
                          go_roundw
                          case rel => exact ⟨n + 1, HNN.out, by go_num, HNX.out (HZ1.out (by trivial)), hBu.trans (hT.mono hBu.size)⟩
                          case measure => have := HNN.out; simp [intOf]; omega
                        | false =>
                          go_wp2_with fail
                          refine wp_region_noPanic ?_
                          refine wp_region_held_drew (S := fun w' => Below wr.heap.size wr w') (by kernel_rfl) ((Below.refl _ _).drew) (fun hHeld => ?_)
                          have hT : Below wr.heap.size wr wr.drew := hHeld
                          obtain ⟨d, hdw⟩ : ∃ d, d = wr.drew := ⟨_, rfl⟩
                          rw [← hdw] at hHeld hT ⊢
                          clear hdw
                          refine wpAnyH_take (i := 0) (oi := ⟨some 52, .move (.tmp 4), 115, _, _, _⟩) (v := ?v0f) rfl (by kernel_rfl) (by kernel_rfl) (by kernel_rfl) (fun _ _ _ h => h) (Or.inl ⟨by rfl, ?hy0f⟩) hHeld ?rest0f
                          case hy0f => intro w9 hSw; go_simp; (try with_reducible rfl)
                          try simp only [Act.put, s_put, s_0, s_1]
                          refine wpAnyH_take (i := 1) (oi := ⟨some 53, .move (.tmp 7), 3, _, _, _⟩) (v := ?v1f) rfl (by kernel_rfl) (by kernel_rfl) (by kernel_rfl) (fun _ _ _ h => h) (Or.inl ⟨by rfl, ?hy1f⟩) hHeld ?rest1f
                          case hy1f => intro w9 hSw; go_simp; (try with_reducible rfl)
                          try simp only [Act.put, s_put, s_0, s_1]
                          refine wpAnyH_take (i := 2) (oi := ⟨some 54, .indexAddr 115 (.tmp 52) (.tmp 53), 0, _, _, _⟩) (v := ?v2f) rfl (by kernel_rfl) (by kernel_rfl) (by kernel_rfl) (fun _ _ _ h => h) (Or.inl ⟨by rfl, ?hy2f⟩) hHeld ?rest2f
                          case hy2f => intro w9 hSw; go_simp; (try with_reducible rfl)
                          try simp only [Act.put, s_put, s_0, s_1]
                          refine wpAnyH_take (i := 3) (oi := ⟨some 55, .fieldAddr 118 (.tmp 54) 0, 0, _, _, _⟩) (v := ?v3f) rfl (by kernel_rfl) (by kernel_rfl) (by kernel_rfl) (fun _ _ _ h => h) (Or.inl ⟨by rfl, ?hy3f⟩) hHeld ?rest3f
                          case hy3f => intro w9 hSw; go_simp; (try with_reducible rfl)
                          try simp only [Act.put, s_put, s_0, s_1]
                          refine wpAnyH_take (i := 4) (oi := ⟨some 56, .load 9 (.tmp 55), 9, _, _, _⟩) (v := ?v4f) rfl (by kernel_rfl) (by kernel_rfl) (by kernel_rfl) (fun _ _ _ h => h) (Or.inl ⟨by rfl, ?hy4f⟩) hHeld ?rest4f
                          case hy4f => intro w9 hSw; have cc := cell_later G0.out hSw; go_simp; (try with_reducible rfl)
                          try simp only [Act.put, s_put, s_0, s_1]
                          refine wpAnyH_take (i := 5) (oi := ⟨some 57, .move (.tmp 6), 115, _, _, _⟩) (v := ?v5f) rfl (by kernel_rfl) (by kernel_rfl) (by kernel_rfl) (fun _ _ _ h => h) (Or.inl ⟨by rfl, ?hy5f⟩) hHeld ?rest5f
                          case hy5f => intro w9 hSw; go_simp; (try with_reducible rfl)
                          try simp only [Act.put, s_put, s_0, s_1]
                          refine wpAnyH_take (i := 6) (oi := ⟨some 58, .move (.tmp 8), 3, _, _, _⟩) (v := ?v6f) rfl (by kernel_rfl) (by kernel_rfl) (by kernel_rfl) (fun _ _ _ h => h) (Or.inl ⟨by rfl, ?hy6f⟩) hHeld ?rest6f
                          case hy6f => intro w9 hSw; go_simp; (try with_reducible rfl)
                          try simp only [Act.put, s_put, s_0, s_1]
                          refine wpAnyH_take (i := 7) (oi := ⟨some 59, .indexAddr 115 (.tmp 57) (.tmp 58), 0, _, _, _⟩) (v := ?v7f) rfl (by kernel_rfl) (by kernel_rfl) (by kernel_rfl) (fun _ _ _ h => h) (Or.inl ⟨by rfl, ?hy7f⟩) hHeld ?rest7f
                          case hy7f => intro w9 hSw; go_simp; (try with_reducible rfl)
                          try simp only [Act.put, s_put, s_0, s_1]
                          refine wpAnyH_take (i := 8) (oi := ⟨some 60, .fieldAddr 118 (.tmp 59) 0, 0, _, _, _⟩) (v := ?v8f) rfl (by kernel_rfl) (by kernel_rfl) (by kernel_rfl) (fun _ _ _ h => h) (Or.inl ⟨by rfl, ?hy8f⟩) hHeld ?rest8f
                          case hy8f => intro w9 hSw; go_simp; (try with_reducible rfl)
                          try simp only [Act.put, s_put, s_0, s_1]
                          refine wpAnyH_take (i := 9) (oi := ⟨some 61, .load 9 (.tmp 60), 9, _, _, _⟩) (v := ?v9f) rfl (by kernel_rfl) (by kernel_rfl) (by kernel_rfl) (fun _ _ _ h => h) (Or.inl ⟨by rfl, ?hy9f⟩) hHeld ?rest9f
                          case hy9f => intro w9 hSw; have cc := cell_later E0.out hSw; go_simp; (try with_reducible rfl)
                          try simp only [Act.put, s_put, s_0, s_1]
                          refine wpAnyH_take (i := 10) (oi := ⟨some 62, .binOp BinOp.eql 9 (.tmp 56) (.tmp 61) 9, 4, _, _, _⟩) (v := ?v10f) rfl (by kernel_rfl) (by kernel_rfl) (by kernel_rfl) (fun _ _ _ h => h) (Or.inl ⟨by rfl, ?hy10f⟩) hHeld ?rest10f
                          case hy10f => intro w9 hSw; go_simp; (try with_reducible rfl)
                          try simp only [Act.put, s_put, s_0, s_1]
                          refine wpAnyH_take (i := 11) (oi := ⟨some 63, .move (.tmp 62), 4, _, _, _⟩) (v := ?v11f) rfl (by kernel_rfl) (by kernel_rfl) (by kernel_rfl) (fun _ _ _ h => h) (Or.inl ⟨by rfl, ?hy11f⟩) hHeld ?rest11f
                          case hy11f => intro w9 hSw; go_simp; (try with_reducible rfl)
                          try simp only [Act.put, s_put, s_0, s_1]
                          refine wpAnyH_take (i := 12) (oi := ⟨some 64, .fieldAddr 24 (.tmp 1) 0, 0, _, _, _⟩) (v := ?v12f) rfl (by kernel_rfl) (by kernel_rfl) (by kernel_rfl) (fun _ _ _ h => h) (Or.inl ⟨by rfl, ?hy12f⟩) hHeld ?rest12f
                          case hy12f => intro w9 hSw; go_simp; (try with_reducible rfl)
                          try simp only [Act.put, s_put, s_0, s_1]
                          refine wpAnyH_take (i := 13) (oi := ⟨some 65, .load 3 (.tmp 64), 3, _, _, _⟩) (v := ?v13f) rfl (by kernel_rfl) (by kernel_rfl) (by kernel_rfl) (fun _ _ _ h => h) (Or.inl ⟨by rfl, ?hy13f⟩) hHeld ?rest13f
                          case hy13f => intro w9 hSw; have cc := cell_later CK.out hSw; go_simp; (try with_reducible rfl)
                          try simp only [Act.put, s_put, s_0, s_1]
                          refine wpAnyH_take (i := 14) (oi := ⟨some 66, .binOp BinOp.neq 3 (.tmp 65) (.const (Value.int IntKind.i64 4)) 3, 4, _, _, _⟩) (v := ?v14f) rfl (by kernel_rfl) (by kernel_rfl) (by kernel_rfl) (fun _ _ _ h => h) (Or.inl ⟨by rfl, ?hy14f⟩) hHeld ?rest14f
                          case hy14f => intro w9 hSw; go_simp; (try with_reducible rfl)
                          try simp only [Act.put, s_put, s_0, s_1]
                          refine wpAnyH_take (i := 15) (oi := ⟨some 67, .move (.tmp 66), 4, _, _, _⟩) (v := ?v15f) rfl (by kernel_rfl) (by kernel_rfl) (by kernel_rfl) (fun _ _ _ h => h) (Or.inl ⟨by rfl, ?hy15f⟩) hHeld ?rest15f
                          case hy15f => intro w9 hSw; go_simp; (try with_reducible rfl)
                          try simp only [Act.put, s_put, s_0, s_1]
                          refine wpAnyH_take (i := 16) (oi := ⟨some 68, .move (.tmp 4), 115, _, _, _⟩) (v := ?v16f) rfl (by kernel_rfl) (by kernel_rfl) (by kernel_rfl) (fun _ _ _ h => h) (Or.inl ⟨by rfl, ?hy16f⟩) hHeld ?rest16f
                          case hy16f => intro w9 hSw; go_simp; (try with_reducible rfl)
                          try simp only [Act.put, s_put, s_0, s_1]
                          refine wpAnyH_take (i := 17) (oi := ⟨some 69, .move (.tmp 7), 3, _, _, _⟩) (v := ?v17f) rfl (by kernel_rfl) (by kernel_rfl) (by kernel_rfl) (fun _ _ _ h => h) (Or.inl ⟨by rfl, ?hy17f⟩) hHeld ?rest17f
                          case hy17f => intro w9 hSw; go_simp; (try with_reducible rfl)
                          try simp only [Act.put, s_put, s_0, s_1]
                          refine wpAnyH_take (i := 18) (oi := ⟨some 70, .indexAddr 115 (.tmp 68) (.tmp 69), 0, _, _, _⟩) (v := ?v18f) rfl (by kernel_rfl) (by kernel_rfl) (by kernel_rfl) (fun _ _ _ h => h) (Or.inl ⟨by rfl, ?hy18f⟩) hHeld ?rest18f
                          case hy18f => intro w9 hSw; go_simp; (try with_reducible rfl)
                          try simp only [Act.put, s_put, s_0, s_1]
                          refine wpAnyH_take (i := 19) (oi := ⟨some 71, .load 118 (.tmp 70), 118, _, _, _⟩) (v := ?v19f) rfl (by kernel_rfl) (by kernel_rfl) (by kernel_rfl) (fun _ _ _ h => h) (Or.inl ⟨by rfl, ?hy19f⟩) hHeld ?rest19f
                          case hy19f => intro w9 hSw; have cc0 := cell_later G0.out hSw; have cc1 := cell_later G1.out hSw; have cc2 := cell_later G2.out hSw; go_simp; (try with_reducible rfl)
                          try simp only [Act.put, s_put, s_0, s_1]
                          refine wpAnyH_take (i := 20) (oi := ⟨some 72, .move (.tmp 6), 115, _, _, _⟩) (v := ?v20f) rfl (by kernel_rfl) (by kernel_rfl) (by kernel_rfl) (fun _ _ _ h => h) (Or.inl ⟨by rfl, ?hy20f⟩) hHeld ?rest20f
                          case hy20f => intro w9 hSw; go_simp; (try with_reducible rfl)
                          try simp only [Act.put, s_put, s_0, s_1]
                          refine wpAnyH_take (i := 21) (oi := ⟨some 73, .move (.tmp 8), 3, _, _, _⟩) (v := ?v21f) rfl (by kernel_rfl) (by kernel_rfl) (by kernel_rfl) (fun _ _ _ h => h) (Or.inl ⟨by rfl, ?hy21f⟩) hHeld ?rest21f
                          case hy21f => intro w9 hSw; go_simp; (try with_reducible rfl)
                          try simp only [Act.put, s_put, s_0, s_1]
                          refine wpAnyH_take (i := 22) (oi := ⟨some 74, .indexAddr 115 (.tmp 72) (.tmp 73), 0, _, _, _⟩) (v := ?v22f) rfl (by kernel_rfl) (by kernel_rfl) (by kernel_rfl) (fun _ _ _ h => h) (Or.inl ⟨by rfl, ?hy22f⟩) hHeld ?rest22f
                          case hy22f => intro w9 hSw; go_simp; (try with_reducible rfl)
                          try simp only [Act.put, s_put, s_0, s_1]
                          refine wpAnyH_take (i := 23) (oi := ⟨some 75, .load 118 (.tmp 74), 118, _, _, _⟩) (v := ?v23f) rfl (by kernel_rfl) (by kernel_rfl) (by kernel_rfl) (fun _ _ _ h => h) (Or.inl ⟨by rfl, ?hy23f⟩) hHeld ?rest23f
                          case hy23f => intro w9 hSw; have cc0 := cell_later E0.out hSw; have cc1 := cell_later E1.out hSw; have cc2 := cell_later E2.out hSw; go_simp; (try with_reducible rfl)
                          try simp only [Act.put, s_put, s_0, s_1]
                          refine wpAnyH_ready (rs := [24]) (by kernel_rfl) (by simp) ?_
                          refine AllReadyH.cons (o := ⟨some 76, .call { callee := .value (.func 87), args := #[.tmp 71, .tmp 75], argTypes := #[118, 118] }, 4, _, _, _⟩) rfl (fun K hK => ?_) AllReadyH.nil
                          go_simp
                          refine (hc.out _).mono ?_
                          rintro e x24 ⟨rfl, hN24⟩
                          go_wp2_with fail
                          have hT24 : Below wr.heap.size wr x24 := hT.trans (hN24.mono hT.size)
                          refine hK.out _ _ (hHeld.trans (hN24.mono hHeld.size)) (fun _ => held_up (S' := fun w' => Below x24.heap.size x24 w') (fun w' h' => (hHeld.trans (hN24.mono hHeld.size)).trans (h'.mono (Nat.le_trans hHeld.size hN24.size))) _ _ _ _ ?_)
                          clear hK K hHeld hT
                          have hT : Below wr.heap.size wr x24 := hT24
                          have hHeld : Below x24.heap.size x24 x24 := Below.refl _ _
                          clear hT24 hN24
                          try simp only [Act.put, s_put, s_0, s_1]
                          refine wpAnyH_take (i := 25) (oi := ⟨some 77, .unOp UnOp.not 4 (.tmp 76), 4, _, _, _⟩) (v := ?v25f) rfl (by kernel_rfl) (by kernel_rfl) (by kernel_rfl) (fun _ _ _ h => h) (Or.inl ⟨by rfl, ?hy25f⟩) hHeld ?rest25f
                          case hy25f => intro w9 hSw; go_simp; (try with_reducible rfl)
                          try simp only [Act.put, s_put, s_0, s_1]
                          refine wpAnyH_take (i := 26) (oi := ⟨some 78, .pick (.tmp 67) (.const (Value.bool true)) (.tmp 77), 4, _, _, _⟩) (v := ?v26f) rfl (by kernel_rfl) (by kernel_rfl) (by kernel_rfl) (fun _ _ _ h => h) (Or.inl ⟨by rfl, ?hy26f⟩) hHeld ?rest26f
                          case hy26f => intro w9 hSw; go_simp; (try with_reducible rfl)
                          try simp only [Act.put, s_put, s_0, s_1]
                          refine wpAnyH_take (i := 27) (oi := ⟨some 79, .pick (.tmp 63) (.tmp 78) (.const (Value.bool false)), 4, _, _, _⟩) (v := ?v27f) rfl (by kernel_rfl) (by kernel_rfl) (by kernel_rfl) (fun _ _ _ h => h) (Or.inl ⟨by rfl, ?hy27f⟩) hHeld ?rest27f
                          case hy27f => intro w9 hSw; go_simp; (try with_reducible rfl)
                          try simp only [Act.put, s_put, s_0, s_1]
                          refine wpAnyH_done (by kernel_rfl) ?_ _
                          refine NoPanic.normal ?_
                          go_wp2
                          try rw [Exit.noGoto_ret]
                          go_ret
                          exact ⟨by rw [HZ0.out (by trivial)]; rfl, HWU.out.trans (hT.mono HWU.out.size)⟩
                      · have t2 : (x.k != 4) = true := by simp [ek]
                        have HE : Hid (r = false) := HFO.out fun e => ek (e es).1
                        clear es ek
                        go_wp2_with fail
                        go_quiet (fail)
                        go_wp2
                        try rw [Exit.noGoto_ret]
                        go_ret
                        exact ⟨by rw [HE.out]; rfl, bd HWU.out _⟩
                    · have t1 := str_not es
                      have HO : Hid (OkU x a b) := fun e => absurd e es
                      clear es
                      go_wp2_with fail
                      go_quiet (fail)
                      go_wp2
                      go_roundw
                      case rel => exact ⟨n + 1, HNN.out, by go_num, HNX.out HO.out, bd hBu _⟩
                      case measure => have := HNN.out; simp [intOf]; omega
                  · obtain rfl : n = V.length := by omega
                    have HAL : Hid (∀ b ∈ V, OkU x a b) := fun b hb => by
                      obtain ⟨n', h1, h2⟩ := List.getElem_of_mem hb
                      exact HK4.out n' b h1 (by rw [List.getElem?_eq_getElem h1, h2])
                    go_wp2
                    go_roundw
                    case rel =>
                      refine ⟨m + 1, HMN.out, by go_num, fun m' a' h1 h2 => ?_, hb4⟩
                      by_cases e : m' = m
                      · rw [e, HMA.out] at h2; cases h2; exact HAL.out
                      · exact HK3.out m' a' (by omega) h2
                    case measure => have := HMN.out; simp [intOf]; omega
              · obtain rfl : m = U.length := by omega
                go_wp2
                go_roundw
                case rel =>
                  refine ⟨j + 1, HJI.out, by go_num, fun j' h a ha b hb => ?_, HB34.out.trans (hBt.mono HB34.out.size)⟩
                  by_cases e : j' = j
                  · rw [e, ← HV.out] at hb
                    obtain ⟨m', h1, h2⟩ := List.getElem_of_mem ha
                    exact HK3.out m' a h1 (by rw [List.getElem?_eq_getElem h1, h2]) b hb
                  · exact HK2.out j' (by omega) a ha b hb
                case measure => have := HJI.out; simp [intOf]; omega
          · obtain rfl : j = i := by omega
            go_wp2
            go_roundw
            case rel =>
              refine ⟨j + 1, HIN.out, by go_num, fun i' h => ?_, HB3.out.trans (hBs.mono HB3.out.size)⟩
              by_cases e : i' = j
              · rw [e, ← HU.out]; exact ⟨HOI.out, HK2.out⟩
              · exact HK.out i' (by omega)
            case measure => have := HIN.out; simp [intOf]; omega
      · have e1 : oncePB (x.c i) = false := oncePB_no ho
        rw [e1] at hc
        have HE : Hid (r = false) := HF1.out i hin ho
        clear ho e1
        go_wp2_with (first | (go_at_call 65; refine hc.mono ?_; clear hc; rintro e w2 ⟨rfl, hB2⟩))
        try rw [Exit.noGoto_ret]
        go_ret
        exact ⟨by rw [HE.out]; rfl, HWR.out.trans (hB2.mono HWR.out.size)⟩
    · obtain rfl : i = x.n := by omega
      go_wp2
      go_ret
      exact ⟨by rw [HT.out HK.out]; rfl, hw⟩
theorem refOnce_any : ∀ (x : Pt) (w : World), IsP w x → x.size ≤ 1048576 → Calls Tryz.prog 65 #[x.val] w fun e w' => e = .returned (.bool (oncePB x)) ∧ Below w.heap.size w w' := by
  refine Pt.ind fun x ih w hX hsm => ?_
  exact refOnce_step x w hX hsm fun i hi w' h => ih i hi w' h (by have := x.size_part i hi; omega)
end Go.Proofs.YtfnfegcjgnbgbaaGreatDoor
namespace Go.Proofs.YtfnfegcjgnbgbaaGreatDoor
open Go.RowKit

set_option maxRecDepth 100000 in
set_option maxHeartbeats 8000000 in
theorem refNots_any : ∀ (x : Pt) (whole : Bool) (w : World), IsP w x →
    Calls Tryz.prog 64 #[x.val, .bool whole] w fun e w' => e = .returned (.bool (notsP x whole)) ∧ Below w.heap.size w w' := by
  refine Pt.ind fun x ih whole w hX => ?_
  obtain ⟨A, hA, hB, hs, hn⟩ := boxP_one x w
  obtain ⟨f, hf⟩ : ∃ f : Nat → Bool, f = fun i => if (x.c i).k = 6 then notB x whole i else notsP (x.c i) false := ⟨_, rfl⟩
  obtain ⟨r, hr⟩ : ∃ r, r = notsP x whole := ⟨_, rfl⟩
  have hr' : r = allN f x.n := by rw [hr, notsP_eq, hf]
  have HF : Hid (∀ i, i < x.n → f i = false → r = false) := fun i hi h => hr'.trans (allN_false hi h)
  have HT : Hid ((∀ i, i < x.n → f i = true) → r = true) := fun h => hr'.trans (allN_true.2 h)
  rw [← hr]
  have F6 : Hid (∀ i, (x.c i).k = 6 → f i = notB x whole i) := fun i h => by rw [hf]; simp [h]
  have F0 : Hid (∀ i, ¬ (x.c i).k = 6 → f i = notsP (x.c i) false) := fun i h => by rw [hf]; simp [h]
  have HN : Hid (NodeP A w.heap.size 0 x) := hn
  have HX : Hid (IsP A x) := hX.later hB
  have HB : Hid (Below w.heap.size w A) := hB
  have HI : Hid (∀ i, i < x.n → ∀ d, IsP d (x.c i) → Calls Tryz.prog 64 #[(x.c i).val, .bool false] d fun e w' => e = .returned (.bool (notsP (x.c i) false)) ∧ Below d.heap.size d w') := fun i hi d hd => ih i hi false d hd
  have hlen := hX.len
  clear hr hr' hf hX hB ih hn
  go_enter Tryz.func64, Tryz.ntmps64
  go_wp2
  go_loopw [5] (fun u wr => ∃ k : Nat, k ≤ x.n ∧ u = .int .i64 k ∧ Hid (∀ i, i < k → f i = true) ∧ Below A.heap.size A wr) (fun u _ => x.n - (intOf u).toNat)
  case atStart => exact ⟨0, Nat.zero_le _, rfl, fun i hi => absurd hi (Nat.not_lt_zero _), Below.refl _ _⟩
  case round =>
    obtain ⟨k, hk, rfl, HK, hB⟩ := hrel
    have HBr : Hid (Below A.heap.size A wr) := hB
    by_cases hkn : k < x.n
    · obtain ⟨b1, o1, ea, hn1, hx1⟩ := (HX.out.later hB).part hkn
      obtain ⟨C, W, hC, hCb, hCW, hCB, hCn, hCs⟩ := boxP_put (x.c k) wr
      obtain ⟨⟨g0, g1, g2, g3, g4, g5⟩, f0, f1, f2, f3, f4, f5⟩ := zero_cells hCb
      have HBW : Hid (Below A.heap.size A W) := hB.trans (hCB.mono hB.size)
      have HXW : Hid (IsP W (x.c k)) := hx1.later hCB
      obtain ⟨e0, e1, e2, e3, e4, e5⟩ := (HN.out.later hB).at0
      obtain ⟨i0, i1, i2, i3, i4, i5⟩ := (HN.out.later HBW.out).at0
      obtain ⟨c0, c1, c2, c3, c4, c5⟩ := hn1
      obtain ⟨j0, j1, j2, j3, j4, j5⟩ := hCn.at0
      rw [ea] at e5 i5
      have HKN : Hid (k < x.n) := hkn
      have next : (f k = true) → ∀ i, i < k + 1 → f i = true := fun h i hi => by
        by_cases e : i = k
        · rw [e]; exact h
        · exact HK.out i (by omega)
      clear hx1 hCb hCn i1 i2 i3 i4 e0 e1 e2 e3 e4
      by_cases h6 : (x.c k).k = 6
      · have t1 : ((x.c k).k == 6) = true := by simp [h6]
        have hfk := F6.out k h6
        by_cases h2 : x.k = 2
        · have t2 : (x.k != 2) = false := by simp [h2]
          by_cases h0 : k = 0
          · have t3 : (((k : Nat) : Int) == 0) = true := by simp [h0]
            have HE : Hid (r = false) := HF.out k hkn (by rw [hfk]; rw [h0] at h6 ⊢; simp [notB, h6])
            clear h6 h2 h0 next ea hB hCB hCs hfk
            go_wp2
            all_goals first
              | (rename_i q1 q2; cases q1; done)
              | (go_ret; exact ⟨by rw [HE.out]; rfl, HB.out.trans (HBW.out.mono HB.out.size)⟩)
          · obtain ⟨j, hj⟩ : ∃ j, k = j + 1 := ⟨k - 1, by omega⟩
            have hq : ((k : Nat) : Int) - 1 = (j : Int) := by omega
            have hjn : j < x.n := by omega
            have t3 : (((k : Nat) : Int) == 0) = false := by simp; omega
            obtain ⟨b2, o2, ea2, hn2, -⟩ := (HX.out.later HBW.out).part hjn
            rw [ea] at ea2
            cases ea2
            obtain ⟨p0, p1, p2, p3, p4, p5⟩ := hn2
            have hkj : x.c (k - 1) = x.c j := by rw [hj]; rfl
            clear p1 p2 p3 p4 p5
            by_cases h5 : (x.c j).k = 6
            · have t4 : ((x.c j).k == 6) = true := by simp [h5]
              have HE : Hid (r = false) := HF.out k hkn (by rw [hfk]; simp [notB, h6, hkj, h5])
              clear h6 h2 h0 next ea hB hCB hCs hfk hj hkj h5
              go_wp2
              all_goals first
                | (rename_i q1 q2; cases q1; done)
                | (go_ret; exact ⟨by rw [HE.out]; rfl, HB.out.trans (HBW.out.mono HB.out.size)⟩)
            · have t4 : ((x.c j).k == 6) = false := by simp [h5]
              by_cases hl : k + 1 = x.n
              · have t5 : (((k : Nat) : Int) == ((x.n : Nat) : Int) - 1) = true := by simp; omega
                cases whole with
                | false =>
                  have HE : Hid (r = false) := HF.out k hkn (by rw [hfk]; simp [notB, h6, hl])
                  clear h6 h2 h0 next ea hB hCB hCs hfk hj hkj h5 hl
                  go_wp2
                  all_goals first
                    | (rename_i q1 q2; cases q1; done)
                    | (go_ret; exact ⟨by rw [HE.out]; rfl, HB.out.trans (HBW.out.mono HB.out.size)⟩)
                | true =>
                  have HE : Hid (∀ i, i < k + 1 → f i = true) := next (by rw [hfk]; simp [notB, h2, h0, hkj, h5])
                  clear h6 h2 h0 next ea hB hCB hCs hfk hj hkj h5 hl
                  go_wp2
                  go_roundw
                  case rel => exact ⟨k + 1, HKN.out, by go_num, HE, HBW.out⟩
                  case measure => have := HKN.out; simp [intOf]; omega
              · have t5 : (((k : Nat) : Int) == ((x.n : Nat) : Int) - 1) = false := by simp; omega
                have HE : Hid (∀ i, i < k + 1 → f i = true) := next (by rw [hfk]; simp [notB, h2, h0, hkj, h5, hl])
                clear h6 h2 h0 next ea hB hCB hCs hfk hj hkj h5 hl
                go_wp2
                go_roundw
                case rel => exact ⟨k + 1, HKN.out, by go_num, HE, HBW.out⟩
                case measure => have := HKN.out; simp [intOf]; omega
        · have t2 : (x.k != 2) = true := by simp [h2]
          have HE : Hid (r = false) := HF.out k hkn (by rw [hfk]; simp [notB, h6, h2])
          clear h6 h2 next ea hB hCB hCs hfk
          go_wp2
          all_goals first
            | (rename_i q1 q2; cases q1; done)
            | (go_ret; exact ⟨by rw [HE.out]; rfl, HB.out.trans (HBW.out.mono HB.out.size)⟩)
      · have t1 : ((x.c k).k == 6) = false := by simp [h6]
        have hc := HI.out k hkn W HXW.out
        rw [← F0.out k h6] at hc
        clear h6 hB hCB hCs
        cases hv : f k with
        | true =>
          rw [hv] at hc
          have HE : Hid (∀ i, i < k + 1 → f i = true) := next hv
          clear next hv ea
          go_wp2_with (go_at_call 64; refine hc.mono ?_; clear hc; rintro e w2 ⟨rfl, hB2⟩)
          go_roundw
          case rel => exact ⟨k + 1, HKN.out, by go_num, HE, HBW.out.trans (hB2.mono HBW.out.size)⟩
          case measure => have := HKN.out; simp [intOf]; omega
        | false =>
          rw [hv] at hc
          have HE : Hid (r = false) := HF.out k hkn hv
          clear next hv ea
          go_wp2_with (go_at_call 64; refine hc.mono ?_; clear hc; rintro e w2 ⟨rfl, hB2⟩)
          go_ret
          exact ⟨by rw [HE.out]; rfl, HB.out.trans ((HBW.out.trans (hB2.mono HBW.out.size)).mono HB.out.size)⟩
    · obtain rfl : k = x.n := by omega
      obtain ⟨e0, e1, e2, e3, e4, e5⟩ := (HN.out.later hB).at0
      go_wp2
      go_ret
      exact ⟨by rw [HT.out HK.out]; rfl, HB.out.trans (hB.mono HB.out.size)⟩
end Go.Proofs.YtfnfegcjgnbgbaaGreatDoor
