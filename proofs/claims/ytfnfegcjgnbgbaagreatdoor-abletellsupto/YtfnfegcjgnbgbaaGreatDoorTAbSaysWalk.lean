/-
  haruspexref19.Fine, the three Says, AbleSays' walk.
  haruspexref22.Uses and Notes.
  haruspexref22.Notes.
  able.Best and the document's; what both sides answer of Uses, Notes and Best, told in one.
  AbleTells' walk.
  Of what came in: cells of small types, and values.
-/
import Derived.Test.YtfnfegcjgnbgbaaGreatDoorTAbUses
import Derived.Test.YtfnfegcjgnbgbaaGreatDoorTQryRefCheckB
import Derived.Test.YtfnfegcjgnbgbaaGreatDoorTPatRefMade
import Derived.Test.YtfnfegcjgnbgbaaGreatDoorTAbRefRow
import Derived.Test.YtfnfegcjgnbgbaaGreatDoorTQryCheckF
import Derived.Test.YtfnfegcjgnbgbaaGreatDoorTValOrder
import Derived.Deep.Strs
namespace Go.Proofs.YtfnfegcjgnbgbaaGreatDoor
open Go.RowKit

theorem boxQ_s (q : Qy) (w : World) : ∃ A, w.alloc (.cells q.cells 28) = A ∧ Below w.heap.size w A ∧ A.heap.size = w.heap.size + 1 ∧ QB A w.heap.size q :=
  ⟨_, rfl, (Below.refl _ w).alloc (Nat.le_refl _) _, by simp, QB.new w q⟩
set_option maxRecDepth 100000 in
set_option maxHeartbeats 4000000 in
theorem fine_any (q : Qy) (w : World) (hQ : IsQ w q) (hok : QOk q) (hsm : q.bulk ≤ 1048576) : Calls Tryz.prog 18 #[q.val] w fun e w' => ∃ z : Int, e = .returned (.int .i64 z) ∧ Hid (z = 0 ↔ FineQ q) ∧ Below w.heap.size w w' := by
  obtain ⟨A, hA, hB, hs, hq⟩ := boxQ_s q w
  have hc1 := refCheckQ_any q A (hQ.later hB) hok hsm
  have hc2 : ∀ D, Below A.heap.size A D → Calls Tryz.prog 37 #[q.p.val] D fun e w' => ∃ z : Int, e = .returned (.int .i64 z) ∧ MadeZ q.p z ∧ Below D.heap.size D w' := fun D h => refMade_any q.p D ((hQ.p.later hB).later h) (by unfold Qy.bulk at hsm; omega) hok.p
  obtain ⟨⟨a0, a1, a2, a3, a4, a5⟩, a6, a7, a8, a9, a10⟩ := hq.at0
  have HB : Hid (Below w.heap.size w A ∧ QB A w.heap.size q) := ⟨hB, hq⟩
  obtain ⟨c, hc⟩ : ∃ c, c = chkQ q := ⟨_, rfl⟩
  have HC : Hid (c = chkQ q) := hc
  rw [← hc] at hc1
  clear hQ hok hsm hB hs hq hc
  by_cases h0 : c = 0
  · subst h0
    have hz : chkP q.p = 0 := lexN_zero.1 HC.out.symm 0 (by omega)
    have HZ : Hid (∀ z, MadeZ q.p z → (z = 0 ↔ FineQ q)) := fun z h => by
      rcases h with h | h | h
      · exact absurd hz h.1
      · exact ⟨fun _ => ⟨HC.out.symm, h.2.1⟩, fun _ => h.2.2⟩
      · exact ⟨fun e => by have := h.2.2; omega, fun e => absurd e.2 h.2.1⟩
    clear hz
    go_enter Tryz.func18, Tryz.ntmps18
    go_upto_region 1 with fail
    clear hA
    go_wp2_with (first
      | (go_at_call 37; refine (hc2 _ hB1).mono ?_; clear hc2; rintro e w2 ⟨z, rfl, hz, hB2⟩)
      | (go_at_call 36; refine hc1.mono ?_; clear hc1; rintro e w1 ⟨rfl, hB1⟩; clear a0 a1 a2 a3 a4 a5 a6 a7 a8 a9 a10; obtain ⟨⟨a0, a1, a2, a3, a4, a5⟩, a6, a7, a8, a9, a10⟩ := (HB.out.2.later hB1).at0))
    go_ret
    exact ⟨z, rfl, HZ.out z hz, HB.out.1.trans ((hB1.trans (hB2.mono hB1.size)).mono HB.out.1.size)⟩
  · have hne : (c != 0) = true := by simp [h0]
    have HN : Hid (c = 0 ↔ FineQ q) := ⟨fun e => absurd e h0, fun e => absurd (HC.out.trans e.1) h0⟩
    clear h0 hc2
    go_enter Tryz.func18, Tryz.ntmps18
    go_upto_region 1 with fail
    clear hA
    go_wp2_with (go_at_call 36; refine hc1.mono ?_; clear hc1; rintro e w1 ⟨rfl, hB1⟩)
    go_ret
    exact ⟨c, rfl, HN, HB.out.1.trans (hB1.mono HB.out.1.size)⟩
theorem fine_yes {q : Qy} (hf : FineQ q) {w : World} (h : Calls Tryz.prog 18 #[q.val] w fun e w' => ∃ z : Int, e = .returned (.int .i64 z) ∧ Hid (z = 0 ↔ FineQ q) ∧ Below w.heap.size w w') : Calls Tryz.prog 18 #[q.val] w fun e w' => e = .returned (.int .i64 0) ∧ Below w.heap.size w w' := by
  refine h.mono ?_
  rintro e w' ⟨z, rfl, h1, h2⟩
  rw [h1.out.2 hf]
  exact ⟨rfl, h2⟩
end Go.Proofs.YtfnfegcjgnbgbaaGreatDoor
namespace Go.Proofs.YtfnfegcjgnbgbaaGreatDoor
open Go.RowKit Go.Shelf
attribute [local go_sem] Oper.semAt_some

/-- What the document's Uses and Notes answer. -/
def RefAns (P : Prop) (L : List Nt) (w : World) (e : Ending) (w' : World) : Prop :=
  (¬ P ∧ ∃ z : Int, z ≠ 0 ∧ e = .returned (.tuple #[.slice none 0 0, .int .i64 z]) ∧ z = 1 ∧ Below w.heap.size w w') ∨
  (P ∧ ∃ (a : Option Addr) (cap : Nat) (us : List Value), e = .returned (.tuple #[.slice a L.length cap, .int .i64 0]) ∧ NtR w' w.heap.size (.slice a L.length cap) L us ∧ Below w.heap.size w w')
/-- What stays told while clauses are noted. -/
structure QJ (q : Qy) (w W : World) (v : Value) (L : List Nt) : Prop where
  row : ∃ us, NtR W w.heap.size v L us
  node : QB W w.heap.size q
  low : Below w.heap.size w W
theorem QJ.later {q : Qy} {w W W' : World} {v : Value} {L : List Nt} (h : QJ q w W v L) (hB : Below W.heap.size W W') : QJ q w W' v L := by
  obtain ⟨us, hr⟩ := h.row
  exact ⟨⟨us, hr.later hB⟩, h.node.later hB, h.low.trans (hB.mono h.low.size)⟩
/-- One note more, without a way. -/
theorem QJ.push {q : Qy} {w W : World} {v : Value} {L : List Nt} (h : QJ q w W v L) (z : Int) (hl : L.length ≤ 1048575) :
    ∃ a' cap' W', (Builtin.append_ #[31, 31] 31 #[v, .slice (some ⟨W.heap.size, 0, none⟩) 1 1]).run Tryz.prog (W.alloc (.cells #[.slice none 0 0, .int .i64 z] 56)) = .ok (.slice a' (L.length + 1) cap') W' ∧ QJ q w W' (.slice a' (L.length + 1) cap') (L ++ [([], z)]) := by
  have hB : Below W.heap.size W (W.alloc (.cells #[.slice none 0 0, .int .i64 z] 56)) := (Below.refl _ W).alloc (Nat.le_refl _) _
  have hD' := h.later hB
  obtain ⟨us, hr⟩ := hD'.row
  have hsz := hD'.low.size
  obtain ⟨a', cap', W', hrun, hn, hg⟩ := ntr_append hr hsz (ntSrc_one (way := []) (z := z) (World.ownsRow_nil _ _ _ _) (g := W.heap.size) (t := 56) (alloc_new _ _)) (by simp; omega)
  have own : ∀ k, v.ownBlock = some k → w.heap.size ≤ k ∧ ∃ c, (W.alloc (.cells #[.slice none 0 0, .int .i64 z] 56)).heap[k]? = some (.cells c 56 (0, 0)) := fun k hk => by
    rcases hr.row.2 with ⟨e, -⟩ | ⟨g, cap, cur, e, h1, h2, -⟩
    · rw [e] at hk; cases hk
    · rw [e] at hk; cases hk; exact ⟨h1, _, h2⟩
  have e : (L ++ [(([] : List Int), z)]).length = L.length + 1 := by simp
  rw [e] at hrun hn
  refine ⟨a', cap', W', hrun, ⟨_, hn⟩, (hg.block _ (heap_lt hD'.node) (fun e => ?_)).trans hD'.node, hD'.low.trans ⟨hg.os, hg.tape, hg.output, by have := hg.size; omega, fun k hk => hg.block k (by omega) (fun e => ?_)⟩⟩
  · obtain ⟨-, c, hc⟩ := own _ e.symm
    rw [hD'.node] at hc
    simp at hc
  · have := (own _ e.symm).1
    omega
theorem QJ.rel {q : Qy} {w W : World} {a : Option Addr} {cap : Nat} {L : List Nt} {n : Nt} (h : QJ q w W (.slice a (L.length + 1) cap) (L ++ [n])) : QJ q w W (.slice a (L ++ [n]).length cap) (L ++ [n]) := by
  rw [List.length_append]
  exact h
theorem NtR.at2 {W : World} {base : Nat} {a : Option Addr} {n cap : Nat} {L : List Nt} {us : List Value} (h : NtR W base (.slice a n cap) L us) {i : Nat} {p : Nt} (hp : L[i]? = some p) : ∃ g va vc, NtAt W a i p g va vc ∧ Wy W 0 (.slice va p.1.length vc) p.1 := by
  have h0 : Nts W 0 (fun _ => True) (.slice a n cap) L us := ⟨h.len, own_low22 h.row (Nat.zero_le _), fun j u n hu hn => ⟨h.way j u n hu hn, fun _ _ => trivial⟩⟩
  obtain ⟨P, hPL, hP⟩ := h0.pairs
  rw [← hPL, List.getElem?_map, Option.map_eq_some_iff] at hp
  obtain ⟨q, hq, rfl⟩ := hp
  obtain ⟨g, va, vm, vc, ea, -, -, -, -, hv, c0, c1⟩ := hP.at hq
  have hw := (hP.way q (List.mem_of_getElem? hq)).1
  rw [hv] at hw
  obtain ⟨a', cap', e, -, h1, h2⟩ := hw.shape
  cases e
  exact ⟨g, va, vc, ⟨ea, c0, c1, fun k hk => hw.at hk, Nat.le_trans h1 h2⟩, hw⟩
set_option maxRecDepth 100000 in
set_option maxHeartbeats 16000000 in
theorem refUses22_any (q : Qy) (w : World) (hQ : IsQ w q) (hok : QOk q) (hsm : q.bulk ≤ 1048576) : Calls Tryz.prog 8 #[q.val] w (RefAns (FineQ q) (usesL q) w) := by
  obtain ⟨A, hA, hB, hs, hq⟩ := boxQ_s q w
  have hc1 := fine_any q A (hQ.later hB) hok hsm
  obtain ⟨⟨a0, a1, a2, a3, a4, a5⟩, a6, a7, a8, a9, a10⟩ := hq.at0
  have HB : Hid (Below w.heap.size w A ∧ QB A w.heap.size q) := ⟨hB, hq⟩
  by_cases hf : ¬ FineQ q
  · have hc1' : Calls Tryz.prog 18 #[q.val] A fun e w' => ∃ z : Int, e = .returned (.int .i64 z) ∧ (z != 0) = true ∧ Below A.heap.size A w' := by
      refine hc1.mono ?_
      rintro e w' ⟨z, rfl, h1, h2⟩
      refine ⟨z, rfl, ?_, h2⟩
      simp only [bne_iff_ne, ne_eq]
      exact fun e => hf (h1.out.1 e)
    have HN : Hid (¬ FineQ q) := hf
    clear hQ hok hsm hB hs hq hf hc1
    go_enter Tryz.func8, Tryz.ntmps8
    go_upto_region 1 with fail
    clear hA
    go_wp2_with (go_at_call 18; refine hc1'.mono ?_; clear hc1'; rintro e w1 ⟨z, rfl, hz, hB1⟩)
    refine bodyPost_ret (results_tmp2 rfl _ _ _) rfl ?_
    exact .inl ⟨HN.out, 1, by decide, rfl, rfl, HB.out.1.trans (hB1.mono HB.out.1.size)⟩
  · have hf : FineQ q := Classical.not_not.1 hf
    have hm := qyMode hf.1
    have hsz := qySmall hf.1
    have hc1' := fine_yes hf hc1
    obtain ⟨L0, hL0⟩ : ∃ L0 : List Nt, L0 = (visW [] 0 q.p).flatMap (ntsOf (tlP q.p)) := ⟨_, rfl⟩
    have hnl : nodesL false false [] q.p = L0 := by rw [hL0]; exact nodesL_made (lexN_zero.1 hf.1 0 (by omega)) hf.2
    have hl0 : L0.length ≤ 128 := by
      have := nodesL_len q.p false false []
      rw [hnl] at this
      omega
    have hc2 : ∀ D, Below A.heap.size A D → Calls Tryz.prog 32 #[q.p.val, .slice none 0 0, .bool false, .bool false] D fun e w' => ∃ a cap, e = .returned (.slice a L0.length cap) ∧ Hid (QJ q w w' (.slice a L0.length cap) L0) := fun D h => by
      have h1 := refNodes_any q.p [] none 0 false false D ((hQ.p.later hB).later h) (World.ownsRow_nil _ _ _ _) (by simp; omega) (by omega)
      rw [hnl] at h1
      refine h1.mono ?_
      rintro e w' ⟨a, cap, us, rfl, h2, h3⟩
      have hsD : w.heap.size ≤ D.heap.size := Nat.le_trans hB.size h.size
      exact ⟨a, cap, rfl, ⟨⟨us, h2.low hsD⟩, (hq.later h).later h3, (hB.trans (h.mono hB.size)).trans (h3.mono hsD)⟩⟩
    have HF : Hid (FineQ q ∧ usesL q = L0 ++ clauseL q) := ⟨hf, by rw [hL0]; rfl⟩
    clear hQ hok hsm hB hs hq hf hc1 hnl hL0 hsz
    go_enter Tryz.func8, Tryz.ntmps8
    go_upto_region 1 with fail
    clear hA
    go_upto_if 13 with (first
      | (go_at_call 32; refine (hc2 _ hB1).mono ?_; clear hc2; rintro e w2 ⟨o1, cp1, rfl, J1⟩; clear a0 a1 a2 a3 a4 a5 a6 a7 a8 a9 a10; obtain ⟨⟨a0, a1, a2, a3, a4, a5⟩, a6, a7, a8, a9, a10⟩ := J1.out.node.at0)
      | (go_at_call 18; refine hc1'.mono ?_; clear hc1'; rintro e w1 ⟨rfl, hB1⟩; clear a0 a1 a2 a3 a4 a5 a6 a7 a8 a9 a10; obtain ⟨⟨a0, a1, a2, a3, a4, a5⟩, a6, a7, a8, a9, a10⟩ := (HB.out.2.later hB1).at0))
    clear hB1
    obtain ⟨L1, hL1⟩ : ∃ L1 : List Nt, L1 = L0 ++ if (!q.key.toList.isEmpty) = true then [([], 8)] else [] := ⟨_, rfl⟩
    have HL1 : Hid (L1 = L0 ++ if (!q.key.toList.isEmpty) = true then [([], 8)] else []) := hL1
    clear hL1
    go_cut [4] (fun s4 W => ∃ a cap, s4 = .slice a L1.length cap ∧ Hid (QJ q w W (.slice a L1.length cap) L1))
    case first =>
      cases hk : q.key.toList.isEmpty with
      | true =>
        have e : L1 = L0 := by rw [HL1.out, hk]; simp
        clear HL1
        subst e
        go_wp2
        go_meet
        case rel => exact ⟨_, _, rfl, J1⟩
      | false =>
        have e : L1 = L0 ++ [([], 8)] := by rw [HL1.out, hk]; simp
        clear HL1
        subst e
        obtain ⟨a', cap', W', hrun, hJ⟩ := J1.out.push 8 (by omega)
        have HR : Hid (_ = _) := hrun
        have HJ : Hid (QJ _ _ _ _ _) := hJ
        clear hrun hJ
        go_wp2_with (at_builtin; refine wpList_app22 rfl (.tmp 14) (.tmp 16) 31 rfl _ _ _ rfl rfl HR.out ?_)
        go_meet
        case rel => exact ⟨a', cap', by simp, HJ.out.rel⟩
    case rest =>
      clear J1 a0 a1 a2 a3 a4 a5 a6 a7 a8 a9 a10
      obtain ⟨o1, cp1, rfl, J1⟩ := hcut
      obtain ⟨⟨a0, a1, a2, a3, a4, a5⟩, a6, a7, a8, a9, a10⟩ := J1.out.node.at0
      have hl1 : L1.length ≤ 129 := by rw [HL1.out, List.length_append]; split <;> simp <;> omega
      obtain ⟨L2, hL2⟩ : ∃ L2 : List Nt, L2 = L1 ++ [([], q.mode + 9)] := ⟨_, rfl⟩
      have HL2 : Hid (L2 = L1 ++ [([], q.mode + 9)]) := hL2
      clear hL2
      go_upto_block 0 with fail
      go_cut [4] (fun s4 W => ∃ a cap, s4 = .slice a L2.length cap ∧ Hid (QJ q w W (.slice a L2.length cap) L2))
      case first =>
        have hm3 : q.mode = 1 ∨ q.mode = 2 ∨ q.mode = 0 := by omega
        rcases hm3 with h | h | h
        · have e : L2 = L1 ++ [([], 10)] := by rw [HL2.out, h]; rfl
          have t1 : (q.mode == 1) = true := by simp [h]
          clear HL2
          subst e
          obtain ⟨a', cap', W', hrun, hJ⟩ := J1.out.push 10 (by omega)
          have HR : Hid (_ = _) := hrun
          have HJ : Hid (QJ _ _ _ _ _) := hJ
          clear hrun hJ h
          go_wp2_with (at_builtin; refine wpList_app22 rfl (.tmp 26) (.tmp 28) 31 rfl _ _ _ rfl rfl HR.out ?_)
          go_meet
          case rel => exact ⟨a', cap', by simp, HJ.out.rel⟩
        · have e : L2 = L1 ++ [([], 11)] := by rw [HL2.out, h]; rfl
          have t1 : (q.mode == 1) = false := by simp [h]
          have t2 : (q.mode == 2) = true := by simp [h]
          clear HL2
          subst e
          obtain ⟨a', cap', W', hrun, hJ⟩ := J1.out.push 11 (by omega)
          have HR : Hid (_ = _) := hrun
          have HJ : Hid (QJ _ _ _ _ _) := hJ
          clear hrun hJ h
          go_wp2_with (at_builtin; refine wpList_app22 rfl (.tmp 32) (.tmp 34) 31 rfl _ _ _ rfl rfl HR.out ?_)
          go_meet
          case rel => exact ⟨a', cap', by simp, HJ.out.rel⟩
        · have e : L2 = L1 ++ [([], 9)] := by rw [HL2.out, h]; rfl
          have t1 : (q.mode == 1) = false := by simp [h]
          have t2 : (q.mode == 2) = false := by simp [h]
          clear HL2
          subst e
          obtain ⟨a', cap', W', hrun, hJ⟩ := J1.out.push 9 (by omega)
          have HR : Hid (_ = _) := hrun
          have HJ : Hid (QJ _ _ _ _ _) := hJ
          clear hrun hJ h
          go_wp2_with (at_builtin; refine wpList_app22 rfl (.tmp 20) (.tmp 22) 31 rfl _ _ _ rfl rfl HR.out ?_)
          go_meet
          case rel => exact ⟨a', cap', by simp, HJ.out.rel⟩
      case rest =>
        clear J1 a0 a1 a2 a3 a4 a5 a6 a7 a8 a9 a10
        obtain ⟨o1, cp1, rfl, J1⟩ := hcut
        obtain ⟨⟨a0, a1, a2, a3, a4, a5⟩, a6, a7, a8, a9, a10⟩ := J1.out.node.at0
        have hl2 : L2.length ≤ 130 := by rw [HL2.out, List.length_append]; simp; omega
        obtain ⟨L3, hL3⟩ : ∃ L3 : List Nt, L3 = L2 ++ if (q.win != 0) = true then [([], 12)] else [] := ⟨_, rfl⟩
        have HL3 : Hid (L3 = L2 ++ if (q.win != 0) = true then [([], 12)] else []) := hL3
        clear hL3
        go_upto_if 38 with fail
        go_cut [4] (fun s4 W => ∃ a cap, s4 = .slice a L3.length cap ∧ Hid (QJ q w W (.slice a L3.length cap) L3))
        case first =>
          cases hk : q.win != 0 with
          | false =>
            have e : L3 = L2 := by rw [HL3.out, hk]; simp
            clear HL3
            subst e
            go_wp2
            go_meet
            case rel => exact ⟨_, _, rfl, J1⟩
          | true =>
            have e : L3 = L2 ++ [([], 12)] := by rw [HL3.out, hk]; simp
            clear HL3
            subst e
            obtain ⟨a', cap', W', hrun, hJ⟩ := J1.out.push 12 (by omega)
            have HR : Hid (_ = _) := hrun
            have HJ : Hid (QJ _ _ _ _ _) := hJ
            clear hrun hJ
            go_wp2_with (at_builtin; refine wpList_app22 rfl (.tmp 39) (.tmp 41) 31 rfl _ _ _ rfl rfl HR.out ?_)
            go_meet
            case rel => exact ⟨a', cap', by simp, HJ.out.rel⟩
        case rest =>
          clear J1 a0 a1 a2 a3 a4 a5 a6 a7 a8 a9 a10
          obtain ⟨o1, cp1, rfl, J1⟩ := hcut
          obtain ⟨⟨a0, a1, a2, a3, a4, a5⟩, a6, a7, a8, a9, a10⟩ := J1.out.node.at0
          have hl3 : L3.length ≤ 131 := by rw [HL3.out, List.length_append]; split <;> simp <;> omega
          obtain ⟨L4, hL4⟩ : ∃ L4 : List Nt, L4 = L3 ++ if decide (0 < q.m) = true then [([], 13)] else [] := ⟨_, rfl⟩
          have HL4 : Hid (L4 = L3 ++ if decide (0 < q.m) = true then [([], 13)] else []) := hL4
          clear hL4
          have HL : Hid (L4 = usesL q) := by
            show L4 = _
            rw [HL4.out, HL3.out, HL2.out, HL1.out, HF.out.2]
            unfold clauseL
            simp only [List.append_assoc]
          go_upto_if 46 with fail
          go_cut [4] (fun s4 W => ∃ a cap, s4 = .slice a L4.length cap ∧ Hid (QJ q w W (.slice a L4.length cap) L4))
          case first =>
            clear HL
            by_cases hk : 0 < q.m
            · have e : L4 = L3 ++ [([], 13)] := by rw [HL4.out, decide_eq_true hk]; simp
              have hk0 : decide ((0 : Int) < (q.m : Int)) = true := decide_eq_true (by omega)
              clear HL4
              subst e
              obtain ⟨a', cap', W', hrun, hJ⟩ := J1.out.push 13 (by omega)
              have HR : Hid (_ = _) := hrun
              have HJ : Hid (QJ _ _ _ _ _) := hJ
              clear hrun hJ
              go_wp2_with (at_builtin; refine wpList_app22 rfl (.tmp 47) (.tmp 49) 31 rfl _ _ _ rfl rfl HR.out ?_)
              go_meet
              case rel => exact ⟨a', cap', by simp, HJ.out.rel⟩
            · have e : L4 = L3 := by rw [HL4.out, decide_eq_false hk]; simp
              have hk0 : decide ((0 : Int) < (q.m : Int)) = false := decide_eq_false (by omega)
              clear HL4
              subst e
              go_wp2
              go_meet
              case rel => exact ⟨_, _, rfl, J1⟩
          case rest =>
            obtain ⟨o2, cp2, rfl, J2⟩ := hcut
            rw [HL.out] at J2 ⊢
            go_wp2_with fail
            refine bodyPost_ret (results_tmp2 rfl _ _ _) rfl ?_
            obtain ⟨us, hr⟩ := J2.out.row
            exact .inr ⟨HF.out.1, o2, cp2, us, rfl, hr, J2.out.low⟩
end Go.Proofs.YtfnfegcjgnbgbaaGreatDoor
namespace Go.Proofs.YtfnfegcjgnbgbaaGreatDoor
open Go.RowKit Go.Shelf
attribute [local go_sem] Oper.semAt_some

theorem boxQ_q (q : Qy) (w : World) : ∃ A, w.alloc (.cells q.cells 28) = A ∧ Below w.heap.size w A ∧ QB A w.heap.size q :=
  ⟨_, rfl, (Below.refl _ w).alloc (Nat.le_refl _) _, QB.new w q⟩
theorem usesL_len {q : Qy} (hf : FineQ q) : (usesL q).length ≤ 300 := by
  have h1 := qySmall hf.1
  unfold usesL clauseL
  have h3 := ntsAll_len (tlP q.p) (visW [] 0 q.p)
  rw [length_visW] at h3
  have i1 : ∀ (b : Bool) (z : Int), (if b = true then [(([], z) : Nt)] else []).length ≤ 1 := fun b z => by split <;> simp
  have i2 := i1 (!q.key.toList.isEmpty) 8
  have i3 := i1 (q.win != 0) 12
  have i4 := i1 (decide (0 < q.m)) 13
  simp only [List.length_append, List.length_cons, List.length_nil]
  omega
set_option maxRecDepth 100000 in
set_option maxHeartbeats 16000000 in
theorem refNotes22_any (d : Int) (q : Qy) (w : World) (hQ : IsQ w q) (hok : QOk q) (hsm : q.bulk ≤ 1048576) : Calls Tryz.prog 10 #[.int .i64 d, q.val] w (RefAns (dialB d = true ∧ FineQ q) (notesL d q) w) := by
  obtain ⟨A, hA, hB, hq⟩ := boxQ_q q w
  have hc1 := refUses22_any q A (hQ.later hB) hok hsm
  obtain ⟨⟨a0, a1, a2, a3, a4, a5⟩, a6, a7, a8, a9, a10⟩ := hq.at0
  have HB : Hid (Below w.heap.size w A) := hB
  clear hQ hok hsm hB hq
  by_cases hd : ¬ dialB d = true
  · have hlt : d < 1 ∨ (¬ d < 1 ∧ 3 < d) := by
      simp only [dialB, Bool.and_eq_true, decide_eq_true_eq] at hd
      omega
    have HN : Hid (¬ (dialB d = true ∧ FineQ q)) := fun h => hd h.1
    clear hd hc1
    rcases hlt with hlt | ⟨hlt, hgt⟩
    all_goals
      go_enter Tryz.func10, Tryz.ntmps10
      go_upto_region 1 with fail
      clear hA
      go_wp2
      refine bodyPost_ret (results_tmp2 rfl _ _ _) rfl ?_
      exact .inl ⟨HN.out, 1, by decide, rfl, rfl, HB.out⟩
  have hd : dialB d = true := Classical.not_not.1 hd
  have HD : Hid (dialB d = true) := hd
  have h1 : decide (d < 1) = false := decide_eq_false (by simp only [dialB, Bool.and_eq_true, decide_eq_true_eq] at hd; omega)
  have h2 : decide (3 < d) = false := decide_eq_false (by simp only [dialB, Bool.and_eq_true, decide_eq_true_eq] at hd; omega)
  have h3 : ¬ d < 1 := by simp only [dialB, Bool.and_eq_true, decide_eq_true_eq] at hd; omega
  have h4 : ¬ 3 < d := by simp only [dialB, Bool.and_eq_true, decide_eq_true_eq] at hd; omega
  clear hd
  by_cases hf : ¬ FineQ q
  · have hc1' : Calls Tryz.prog 8 #[q.val] A fun e w' => e = .returned (.tuple #[.slice none 0 0, .int .i64 1]) ∧ Below A.heap.size A w' := by
      refine hc1.mono ?_
      rintro e w' (⟨-, z, -, e1, rfl, h2⟩ | ⟨h, -⟩)
      · exact ⟨e1, h2⟩
      · exact absurd h hf
    have HN : Hid (¬ (dialB d = true ∧ FineQ q)) := fun h => hf h.2
    clear hf hc1
    go_enter Tryz.func10, Tryz.ntmps10
    go_upto_region 1 with fail
    clear hA
    go_wp2_with (go_at_call 8; refine hc1'.mono ?_; clear hc1'; rintro e w1 ⟨rfl, hB1⟩)
    refine bodyPost_ret (results_tmp2 rfl _ _ _) rfl ?_
    exact .inl ⟨HN.out, 1, by decide, rfl, rfl, HB.out.trans (hB1.mono HB.out.size)⟩
  have hf : FineQ q := Classical.not_not.1 hf
  have hl8 := usesL_len hf
  obtain ⟨U, hU⟩ : ∃ U, U = usesL q := ⟨_, rfl⟩
  obtain ⟨n, hn⟩ : ∃ n, n = (usesL q).length := ⟨_, rfl⟩
  have hc1' : Calls Tryz.prog 8 #[q.val] A fun e w' => ∃ a cap, e = .returned (.tuple #[.slice a n cap, .int .i64 0]) ∧ Hid (∃ us, NtR w' A.heap.size (.slice a n cap) U us) ∧ Below A.heap.size A w' := by
    refine hc1.mono ?_
    rintro e w' (⟨h, -⟩ | ⟨-, a, cap, us, e1, h1, h2⟩)
    · exact absurd hf h
    · rw [hn, hU]
      exact ⟨a, cap, e1, ⟨us, h1⟩, h2⟩
  obtain ⟨M, hM⟩ : ∃ M : Nat → List Nt, ∀ k, M k = (U.take k).filter fun p => lacksB d p.2 := ⟨_, fun _ => rfl⟩
  have M0 : M 0 = [] := by rw [hM]; simp
  have HMn : Hid (M n = notesL d q) := by show M n = _; rw [hM, hn, ← hU, List.take_length, hU]; rfl
  have HMs : Hid (∀ k p, U[k]? = some p → M (k + 1) = M k ++ if lacksB d p.2 = true then [p] else []) := fun k p hp => by
    rw [hM, hM, List.take_add_one, hp, List.filter_append]
    congr 1
    simp only [Option.toList_some, List.filter_cons, List.filter_nil]
  have HMl : Hid (∀ k, (M k).length ≤ 300) := fun k => by
    rw [hM]
    have h1 := List.length_filter_le (fun p : Nt => lacksB d p.2) (U.take k)
    have h2 := List.length_take_le k U
    have h3 : U.length ≤ 300 := by rw [hU]; exact hl8
    rw [List.length_take] at h1
    omega
  have HF : Hid (FineQ q ∧ U.length = n) := ⟨hf, by rw [hn, hU]⟩
  have hn9 : n ≤ 300 := by rw [hn]; exact hl8
  clear hf hc1 hU hn hM hl8
  go_enter Tryz.func10, Tryz.ntmps10
  go_upto_region 1 with fail
  clear hA
  go_wp2_with (go_at_call 8; refine hc1'.mono ?_; clear hc1'; rintro e w1 ⟨la, lc, rfl, HL, hB1⟩)
  have HW : Hid (Below w.heap.size w w1) := HB.out.trans (hB1.mono HB.out.size)
  clear hB1 a0 a1 a2 a3 a4 a5 a6 a7 a8 a9 a10 HB
  go_loopw [9, 8] (fun iv ov wr => ∃ (k : Nat) (a : Option Addr) (cap : Nat), k ≤ n ∧ iv = .int .i64 k ∧ ov = .slice a (M k).length cap ∧ Hid (∃ us, NtR wr w1.heap.size (.slice a (M k).length cap) (M k) us) ∧ Below w1.heap.size w1 wr) (fun iv _ _ => n - (intOf iv).toNat)
  case atStart => exact ⟨0, none, 0, Nat.zero_le _, rfl, by rw [M0]; rfl, by rw [M0]; exact ⟨[], NtR.nil _ _⟩, Below.refl _ _⟩
  case round =>
    obtain ⟨k, oa, oc, hk, rfl, rfl, HO, hB⟩ := hrel
    by_cases hkn : k < n
    · obtain ⟨us, hl⟩ := HL.out
      obtain ⟨p, hp⟩ : ∃ p, U[k]? = some p := ⟨_, List.getElem?_eq_getElem (by rw [HF.out.2]; exact hkn)⟩
      obtain ⟨g, va, vc, ⟨ea, c0, c1, -, hpl⟩, hw⟩ := (hl.later hB).at2 hp
      have hs := HMs.out k p hp
      obtain ⟨us2, hO⟩ := HO.out
      have hBa : Below wr.heap.size wr (wr.alloc (.cells #[.slice va p.1.length vc, .int .i64 p.2] 56)) := (Below.refl _ wr).alloc (Nat.le_refl _) _
      have hsrc : NtSrc (wr.alloc (.cells #[.slice va p.1.length vc, .int .i64 p.2] 56)) (.slice (some ⟨wr.heap.size, 0, none⟩) 1 1) [p] [.slice va p.1.length vc] :=
        ntSrc_one (hw.same fun k c _ hc => (hBa.block k (heap_lt hc)).trans hc) (g := wr.heap.size) (t := 56) (alloc_new _ _)
      have hszr := hB.size
      obtain ⟨a', cap', W', hrun, hn', hg⟩ := ntr_append (hO.later hBa) (by have := hBa.size; omega) hsrc (by have := HMl.out k; simp; omega)
      have hBW : Below w1.heap.size w1 W' := hB.trans ((hBa.mono hszr).trans ⟨hg.os, hg.tape, hg.output, by have := hg.size; have := hBa.size; omega, fun k hk => hg.block k (by have := hBa.size; omega) (fun e => by have := (hO.row.lt k e.symm).1; omega)⟩)
      have e1 : (M k ++ [p]).length = (M k).length + 1 := by simp
      rw [e1] at hrun hn'
      have hcl := refLacks_any d p.2 wr
      obtain ⟨z, hz⟩ : ∃ z, z = p.2 := ⟨_, rfl⟩
      obtain ⟨m, hm⟩ : ∃ m, m = p.1.length := ⟨_, rfl⟩
      rw [← hz, ← hm] at hrun
      rw [← hz] at hcl hs c1
      rw [← hm] at c0
      have HR : Hid (_ = _) := hrun
      have HK : Hid (k < n) := hkn
      have HT : Hid (NtR W' w1.heap.size (.slice a' ((M k).length + 1) cap') (M k ++ [p]) (us2 ++ [.slice va p.1.length vc]) ∧ Below w1.heap.size w1 W') := ⟨hn', hBW⟩
      cases hlk : lacksB d z with
      | false =>
        rw [hlk] at hcl hs
        have hs' : M (k + 1) = M k := by rw [hs]; simp
        have HS : Hid (M (k + 1) = M k) := hs'
        clear hs hs' hz hm hrun hn' hg hBW hBa hsrc hO hw hl hp hlk HT HR hpl
        subst ea
        go_wp2_with (go_at_call 15; refine hcl.mono ?_; clear hcl; rintro e w2 ⟨rfl, rfl⟩)
        refine ⟨⟨k + 1, oa, oc, HK.out, by simp, by rw [HS.out], by rw [HS.out]; exact HO, hB⟩, ?_⟩
        have := HK.out
        simp [intOf]
        omega
      | true =>
        rw [hlk] at hcl hs
        have hs' : M (k + 1) = M k ++ [p] := by rw [hs]; simp
        have HS : Hid (M (k + 1) = M k ++ [p]) := hs'
        clear hs hs' hz hm hrun hn' hg hBW hBa hsrc hO hw hl hp hlk hpl
        subst ea
        go_wp2_with (first
          | (at_builtin; refine wpList_app22 rfl (.tmp 37) (.tmp 42) 31 rfl _ _ _ rfl rfl HR.out ?_)
          | (go_at_call 15; refine hcl.mono ?_; clear hcl; rintro e w2 ⟨rfl, rfl⟩))
        refine ⟨⟨k + 1, a', cap', HK.out, by simp, by rw [HS.out]; simp, ?_, HT.out.2⟩, ?_⟩
        · rw [HS.out, List.length_append]
          exact ⟨_, HT.out.1⟩
        · have := HK.out
          simp [intOf]
          omega
    · have hk' : k = n := by omega
      subst hk'
      go_wp2
      refine bodyPost_ret (results_tmp2 rfl _ _ _) rfl ?_
      rw [HMn.out] at HO ⊢
      obtain ⟨us, hr⟩ := HO.out
      exact .inr ⟨⟨HD.out, HF.out.1⟩, _, _, us, rfl, hr.low HW.out.size, HW.out.trans (hB.mono HW.out.size)⟩
end Go.Proofs.YtfnfegcjgnbgbaaGreatDoor
namespace Go.Proofs.YtfnfegcjgnbgbaaGreatDoor
open Go.RowKit Go.Shelf
attribute [local go_sem] Oper.semAt_some

/-- Which dialects lack nothing. -/
def bestM (B : Int → Bool) (k : Nat) : List Int := ([1, 2, 3].take k).filter B
theorem bestM_succ (B : Int → Bool) {k : Nat} (hk : k < 3) : bestM B (k + 1) = bestM B k ++ if B ((k : Int) + 1) = true then [(k : Int) + 1] else [] := by
  have h : ([1, 2, 3] : List Int)[k]? = some ((k : Int) + 1) := by
    match k, hk with
    | 0, _ => rfl
    | 1, _ => rfl
    | 2, _ => rfl
  unfold bestM
  rw [List.take_add_one, h, List.filter_append]
  congr 1
  simp only [Option.toList_some, List.filter_cons, List.filter_nil]
theorem bestM_len (B : Int → Bool) (k : Nat) : (bestM B k).length ≤ 3 := by
  unfold bestM
  have h1 := List.length_filter_le B (([1, 2, 3] : List Int).take k)
  rw [List.length_take] at h1
  have h2 : ([1, 2, 3] : List Int).length = 3 := rfl
  omega
/-- What stays told while dialects are listed. -/
structure BJ (q : Qy) (w W : World) (v : Value) (l : List Int) : Prop where
  own : Wy W w.heap.size v l
  node : QB W w.heap.size q
  low : Below w.heap.size w W
theorem BJ.later {q : Qy} {w W W' : World} {v : Value} {l : List Int} (h : BJ q w W v l) (hB : Below W.heap.size W W') : BJ q w W' v l :=
  ⟨h.own.same fun k _ _ hc => (hB.block k (heap_lt hc)).trans hc, h.node.later hB, h.low.trans (hB.mono h.low.size)⟩
theorem BJ.push {q : Qy} {w W : World} {v : Value} {l : List Int} (h : BJ q w W v l) (i : Int) (hl : l.length ≤ 1000) :
    ∃ a' cap' W', (Builtin.append_ #[39, 39] 39 #[v, .slice (some ⟨W.heap.size, 0, none⟩) 1 1]).run Tryz.prog (W.alloc (.cells #[.int .i64 i] 3)) = .ok (.slice a' (l.length + 1) cap') W' ∧ BJ q w W' (.slice a' (l.length + 1) cap') (l ++ [i]) := by
  have hB : Below W.heap.size W (W.alloc (.cells #[.int .i64 i] 3)) := (Below.refl _ W).alloc (Nat.le_refl _) _
  have hD := h.later hB
  obtain ⟨v2, W2, hrun, hs⟩ := way_append hD.own hD.low.size (by omega) (Boxed.new W 3 (.int .i64 i))
  obtain ⟨a2, cap2, rfl, -⟩ := hs.own.shape
  have e : (l ++ [i]).length = l.length + 1 := by simp
  have hown := hs.own
  rw [e] at hrun hown
  refine ⟨a2, cap2, W2, hrun, hown, (hs.grown.block _ (heap_lt hD.node) (fun e => ?_)).trans hD.node, hD.low.trans ⟨hs.grown.os, hs.grown.tape, hs.grown.output, by have := hs.grown.size; have := hD.low.size; omega, fun k hk => hs.grown.block k (by have := hD.low.size; omega) (fun e => by have := (hD.own.lt k e.symm).1; omega)⟩⟩
  obtain ⟨cur, hcur⟩ := hD.own.intB e.symm
  have hn : (W.alloc (.cells #[.int .i64 i] 3)).heap[w.heap.size]? = some (.cells q.cells 28 (0, 0)) := hD.node
  rw [hn] at hcur
  simp at hcur
/-- What a look at a dialect answers. -/
def LookAns (b : Bool) (X : World) (e : Ending) (w' : World) : Prop := ∃ (a : Option Addr) (n cap : Nat) (z : Int), e = .returned (.tuple #[.slice a n cap, .int .i64 z]) ∧ Hid ((z == 0 && (n : Int) == 0) = b) ∧ Below X.heap.size X w'
/-- What lists dialects answers. -/
def BestAns (BL : List Int) (D : World) (e : Ending) (w' : World) : Prop := ∃ (a : Option Addr) (cap : Nat), e = .returned (.slice a BL.length cap) ∧ (∀ k, k < BL.length → ∃ g, a = some ⟨g, 0, none⟩ ∧ w'.cell? ⟨g, k, none⟩ = some (.int .i64 (BL.getD k 0))) ∧ Below D.heap.size D w'
set_option maxRecDepth 100000 in
set_option maxHeartbeats 16000000 in
theorem best_any (q : Qy) (B : Int → Bool) (w : World) (hc : ∀ k : Nat, k < 3 → ∀ X, Below w.heap.size w X → Calls Tryz.prog 9 #[.int .i64 ((k : Int) + 1), q.val] X (LookAns (B ((k : Int) + 1)) X)) : Calls Tryz.prog 11 #[q.val] w (BestAns (bestM B 3) w) := by
  obtain ⟨A, hA, hB, hq⟩ := boxQ_q q w
  have J0 : Hid (BJ q w A (.slice none 0 0) []) := ⟨World.ownsRow_nil _ _ _ _, hq, hB⟩
  have HC : Hid (∀ k : Nat, k < 3 → ∀ X, Below w.heap.size w X → Calls Tryz.prog 9 #[.int .i64 ((k : Int) + 1), q.val] X (LookAns (B ((k : Int) + 1)) X)) := hc
  clear hB hq hc
  go_enter Tryz.func11, Tryz.ntmps11
  go_upto_region 1 with fail
  clear hA
  go_wp2
  go_loopw [4, 3] (fun iv ov wr => ∃ (k : Nat) (a : Option Addr) (cap : Nat), k ≤ 3 ∧ iv = .int .i64 ((k : Int) + 1) ∧ ov = .slice a (bestM B k).length cap ∧ Hid (BJ q w wr (.slice a (bestM B k).length cap) (bestM B k))) (fun iv _ _ => 4 - (intOf iv).toNat)
  case atStart => exact ⟨0, none, 0, Nat.zero_le _, rfl, rfl, J0⟩
  case round =>
    obtain ⟨k, oa, oc, hk, rfl, rfl, J⟩ := hrel
    by_cases hk3 : k < 3
    · have hle : (k : Int) + 1 ≤ 3 := by omega
      have hc1 := HC.out k hk3 wr J.out.low
      obtain ⟨⟨a0, a1, a2, a3, a4, a5⟩, a6, a7, a8, a9, a10⟩ := J.out.node.at0
      have HK : Hid (k < 3) := hk3
      have HS : Hid (bestM B (k + 1) = bestM B k ++ if B ((k : Int) + 1) = true then [(k : Int) + 1] else []) := bestM_succ B hk3
      have HP : Hid (∀ X, Below wr.heap.size wr X → ∃ a' cap' W', Hid ((Builtin.append_ #[39, 39] 39 #[.slice oa (bestM B k).length oc, .slice (some ⟨X.heap.size, 0, none⟩) 1 1]).run Tryz.prog (X.alloc (.cells #[.int .i64 ((k : Int) + 1)] 3)) = .ok (.slice a' ((bestM B k).length + 1) cap') W') ∧ Hid (BJ q w W' (.slice a' ((bestM B k).length + 1) cap') (bestM B k ++ [(k : Int) + 1]))) := fun X hX => (J.out.later hX).push _ (by have := bestM_len B k; omega)
      have HL : Hid (∀ X, Below wr.heap.size wr X → Hid (BJ q w X (.slice oa (bestM B k).length oc) (bestM B k))) := fun X hX => J.out.later hX
      obtain ⟨b, hb⟩ : ∃ b, b = B ((k : Int) + 1) := ⟨_, rfl⟩
      rw [← hb] at hc1 HS
      clear hb hk3 J
      have post : ∀ e w', LookAns b wr e w' → ∃ (a : Option Addr) (n cap : Nat) (z : Int), e = .returned (.tuple #[.slice a n cap, .int .i64 z]) ∧ ((b = true ∧ (z == 0) = true ∧ ((n : Int) == 0) = true) ∨ (b = false ∧ (z == 0) = false) ∨ (b = false ∧ (z == 0) = true ∧ ((n : Int) == 0) = false)) ∧ Below wr.heap.size wr w' := by
        rintro e w' ⟨a, n, cap, z, h1, h2, h3⟩
        refine ⟨a, n, cap, z, h1, ?_, h3⟩
        have h2 := h2.out
        cases t1 : z == 0 <;> cases t2 : (n : Int) == 0 <;> rw [t1, t2] at h2 <;> simp at h2 <;> simp [← h2]
      have hc2 := hc1.mono post
      clear hc1 post
      go_upto_region 6 with (go_at_call 9; refine hc2.mono ?_; clear hc2; rintro e w2 ⟨ra, rn, rc, z, rfl, hcase, hB2⟩)
      obtain ⟨a', cap', W', HR, HJ⟩ := HP.out w2 hB2
      have HO := HL.out w2 hB2
      clear HP HL a0 a1 a2 a3 a4 a5 a6 a7 a8 a9 a10
      rcases hcase with ⟨rfl, t1, t2⟩ | ⟨rfl, t1⟩ | ⟨rfl, t1, t2⟩
      · go_wp2_with (at_builtin; refine wpList_app22 rfl (.tmp 24) (.tmp 26) 39 rfl _ _ _ rfl rfl HR.out ?_)
        refine ⟨⟨k + 1, a', cap', HK.out, by simp, by rw [HS.out]; simp, ?_⟩, ?_⟩
        · rw [HS.out, if_pos rfl, List.length_append]
          exact HJ
        · have := HK.out
          simp [intOf]
          omega
      · go_wp2
        refine ⟨⟨k + 1, oa, oc, HK.out, by simp, by rw [HS.out]; simp, ?_⟩, ?_⟩
        · rw [HS.out, if_neg (by simp), List.append_nil]
          exact HO
        · have := HK.out
          simp [intOf]
          omega
      · go_wp2
        refine ⟨⟨k + 1, oa, oc, HK.out, by simp, by rw [HS.out]; simp, ?_⟩, ?_⟩
        · rw [HS.out, if_neg (by simp), List.append_nil]
          exact HO
        · have := HK.out
          simp [intOf]
          omega
    · have hk' : k = 3 := by omega
      subst hk'
      go_wp2
      go_ret
      exact ⟨oa, oc, rfl, fun k hk => J.out.own.at hk, J.out.low⟩
set_option maxRecDepth 100000 in
set_option maxHeartbeats 16000000 in
theorem refBest_any (q : Qy) (B : Int → Bool) (w : World) (hc : ∀ k : Nat, k < 3 → ∀ X, Below w.heap.size w X → Calls Tryz.prog 10 #[.int .i64 ((k : Int) + 1), q.val] X (LookAns (B ((k : Int) + 1)) X)) : Calls Tryz.prog 12 #[q.val] w (BestAns (bestM B 3) w) := by
  obtain ⟨A, hA, hB, hq⟩ := boxQ_q q w
  have J0 : Hid (BJ q w A (.slice none 0 0) []) := ⟨World.ownsRow_nil _ _ _ _, hq, hB⟩
  have HC : Hid (∀ k : Nat, k < 3 → ∀ X, Below w.heap.size w X → Calls Tryz.prog 10 #[.int .i64 ((k : Int) + 1), q.val] X (LookAns (B ((k : Int) + 1)) X)) := hc
  clear hB hq hc
  go_enter Tryz.func12, Tryz.ntmps12
  go_upto_region 1 with fail
  clear hA
  go_wp2
  go_loopw [4, 3] (fun iv ov wr => ∃ (k : Nat) (a : Option Addr) (cap : Nat), k ≤ 3 ∧ iv = .int .i64 ((k : Int) + 1) ∧ ov = .slice a (bestM B k).length cap ∧ Hid (BJ q w wr (.slice a (bestM B k).length cap) (bestM B k))) (fun iv _ _ => 4 - (intOf iv).toNat)
  case atStart => exact ⟨0, none, 0, Nat.zero_le _, rfl, rfl, J0⟩
  case round =>
    obtain ⟨k, oa, oc, hk, rfl, rfl, J⟩ := hrel
    by_cases hk3 : k < 3
    · have hle : (k : Int) + 1 ≤ 3 := by omega
      have hc1 := HC.out k hk3 wr J.out.low
      obtain ⟨⟨a0, a1, a2, a3, a4, a5⟩, a6, a7, a8, a9, a10⟩ := J.out.node.at0
      have HK : Hid (k < 3) := hk3
      have HS : Hid (bestM B (k + 1) = bestM B k ++ if B ((k : Int) + 1) = true then [(k : Int) + 1] else []) := bestM_succ B hk3
      have HP : Hid (∀ X, Below wr.heap.size wr X → ∃ a' cap' W', Hid ((Builtin.append_ #[39, 39] 39 #[.slice oa (bestM B k).length oc, .slice (some ⟨X.heap.size, 0, none⟩) 1 1]).run Tryz.prog (X.alloc (.cells #[.int .i64 ((k : Int) + 1)] 3)) = .ok (.slice a' ((bestM B k).length + 1) cap') W') ∧ Hid (BJ q w W' (.slice a' ((bestM B k).length + 1) cap') (bestM B k ++ [(k : Int) + 1]))) := fun X hX => (J.out.later hX).push _ (by have := bestM_len B k; omega)
      have HL : Hid (∀ X, Below wr.heap.size wr X → Hid (BJ q w X (.slice oa (bestM B k).length oc) (bestM B k))) := fun X hX => J.out.later hX
      obtain ⟨b, hb⟩ : ∃ b, b = B ((k : Int) + 1) := ⟨_, rfl⟩
      rw [← hb] at hc1 HS
      clear hb hk3 J
      have post : ∀ e w', LookAns b wr e w' → ∃ (a : Option Addr) (n cap : Nat) (z : Int), e = .returned (.tuple #[.slice a n cap, .int .i64 z]) ∧ ((b = true ∧ (z == 0) = true ∧ ((n : Int) == 0) = true) ∨ (b = false ∧ (z == 0) = false) ∨ (b = false ∧ (z == 0) = true ∧ ((n : Int) == 0) = false)) ∧ Below wr.heap.size wr w' := by
        rintro e w' ⟨a, n, cap, z, h1, h2, h3⟩
        refine ⟨a, n, cap, z, h1, ?_, h3⟩
        have h2 := h2.out
        cases t1 : z == 0 <;> cases t2 : (n : Int) == 0 <;> rw [t1, t2] at h2 <;> simp at h2 <;> simp [← h2]
      have hc2 := hc1.mono post
      clear hc1 post
      go_upto_region 6 with (go_at_call 10; refine hc2.mono ?_; clear hc2; rintro e w2 ⟨ra, rn, rc, z, rfl, hcase, hB2⟩)
      obtain ⟨a', cap', W', HR, HJ⟩ := HP.out w2 hB2
      have HO := HL.out w2 hB2
      clear HP HL a0 a1 a2 a3 a4 a5 a6 a7 a8 a9 a10
      rcases hcase with ⟨rfl, t1, t2⟩ | ⟨rfl, t1⟩ | ⟨rfl, t1, t2⟩
      · go_wp2_with (at_builtin; refine wpList_app22 rfl (.tmp 24) (.tmp 26) 39 rfl _ _ _ rfl rfl HR.out ?_)
        refine ⟨⟨k + 1, a', cap', HK.out, by simp, by rw [HS.out]; simp, ?_⟩, ?_⟩
        · rw [HS.out, if_pos rfl, List.length_append]
          exact HJ
        · have := HK.out
          simp [intOf]
          omega
      · go_wp2
        refine ⟨⟨k + 1, oa, oc, HK.out, by simp, by rw [HS.out]; simp, ?_⟩, ?_⟩
        · rw [HS.out, if_neg (by simp), List.append_nil]
          exact HO
        · have := HK.out
          simp [intOf]
          omega
      · go_wp2
        refine ⟨⟨k + 1, oa, oc, HK.out, by simp, by rw [HS.out]; simp, ?_⟩, ?_⟩
        · rw [HS.out, if_neg (by simp), List.append_nil]
          exact HO
        · have := HK.out
          simp [intOf]
          omega
    · have hk' : k = 3 := by omega
      subst hk'
      go_wp2
      go_ret
      exact ⟨oa, oc, rfl, fun k hk => J.out.own.at hk, J.out.low⟩
/-- What both sides answer of a list of notes. -/
def PairAns (L : List Nt) (z : Int) (D : World) (e : Ending) (w' : World) : Prop := ∃ (a : Option Addr) (cap : Nat), e = .returned (.tuple #[.slice a L.length cap, .int .i64 z]) ∧ (∀ i p, L[i]? = some p → ∃ g va vc, NtAt w' a i p g va vc) ∧ Below D.heap.size D w'
theorem pair_nil {z : Int} {D : World} {e : Ending} {w' : World} (h : e = .returned (.tuple #[.slice none 0 0, .int .i64 z])) (hB : Below D.heap.size D w') : PairAns [] z D e w' := ⟨none, 0, h, fun i p hp => by simp at hp, hB⟩
theorem uses_pair (q : Qy) (w : World) (hQ : IsQ w q) (hok : QOk q) (hsm : q.bulk ≤ 1048576) (hT : AbT w) : ∃ (UL : List Nt) (z : Int), UL.length ≤ 300 ∧ (∀ D, Below w.heap.size w D → Calls Tryz.prog 7 #[q.val] D (PairAns UL z D)) ∧ (∀ D, Below w.heap.size w D → Calls Tryz.prog 8 #[q.val] D (PairAns UL z D)) := by
  by_cases hf : FineQ q
  · refine ⟨usesL q, 0, usesL_len hf, fun D hD => (uses_any q D (hQ.later hD) hok (hT.later hD)).mono ?_, fun D hD => (refUses22_any q D (hQ.later hD) hok hsm).mono ?_⟩
    · rintro e w' (⟨h, -⟩ | ⟨-, a, cap, K, us, rfl, h1, h2⟩)
      · exact absurd hf h
      · exact ⟨a, cap, rfl, h1.r.ntAt, h2⟩
    · rintro e w' (⟨h, -⟩ | ⟨-, a, cap, us, rfl, h1, h2⟩)
      · exact absurd hf h
      · exact ⟨a, cap, rfl, h1.ntAt, h2⟩
  · refine ⟨[], 1, by simp, fun D hD => (uses_any q D (hQ.later hD) hok (hT.later hD)).mono ?_, fun D hD => (refUses22_any q D (hQ.later hD) hok hsm).mono ?_⟩
    · rintro e w' (⟨-, h1, h2⟩ | ⟨h, -⟩)
      · exact pair_nil h1 h2
      · exact absurd h hf
    · rintro e w' (⟨-, z, -, h1, rfl, h2⟩ | ⟨h, -⟩)
      · exact pair_nil h1 h2
      · exact absurd h hf
theorem notes_pair (d : Int) (q : Qy) (w : World) (hQ : IsQ w q) (hok : QOk q) (hsm : q.bulk ≤ 1048576) (hT : AbT w) : ∃ (UL : List Nt) (z : Int), UL.length ≤ 300 ∧ ((z == 0 && ((UL.length : Nat) : Int) == 0) = true ↔ dialB d = true ∧ FineQ q ∧ notesL d q = []) ∧ (∀ D, Below w.heap.size w D → Calls Tryz.prog 9 #[.int .i64 d, q.val] D (PairAns UL z D)) ∧ (∀ D, Below w.heap.size w D → Calls Tryz.prog 10 #[.int .i64 d, q.val] D (PairAns UL z D)) := by
  by_cases hf : dialB d = true ∧ FineQ q
  · refine ⟨notesL d q, 0, Nat.le_trans (List.length_filter_le _ _) (usesL_len hf.2), ?_, fun D hD => (notes_any d q D (hQ.later hD) hok (hT.later hD)).mono ?_, fun D hD => (refNotes22_any d q D (hQ.later hD) hok hsm).mono ?_⟩
    · simp [hf.1, hf.2]
    · rintro e w' (⟨h, -⟩ | ⟨-, -, a, cap, K, us, rfl, h1, h2⟩)
      · exact absurd hf h
      · exact ⟨a, cap, rfl, h1.r.ntAt, h2⟩
    · rintro e w' (⟨h, -⟩ | ⟨-, a, cap, us, rfl, h1, h2⟩)
      · exact absurd hf h
      · exact ⟨a, cap, rfl, h1.ntAt, h2⟩
  · refine ⟨[], 1, by simp, ?_, fun D hD => (notes_any d q D (hQ.later hD) hok (hT.later hD)).mono ?_, fun D hD => (refNotes22_any d q D (hQ.later hD) hok hsm).mono ?_⟩
    · constructor
      · intro h; simp at h
      · exact fun h => absurd ⟨h.1, h.2.1⟩ hf
    · rintro e w' (⟨-, h1, h2⟩ | ⟨h, h', -⟩)
      · exact pair_nil h1 h2
      · exact absurd ⟨h, h'⟩ hf
    · rintro e w' (⟨-, z, -, h1, rfl, h2⟩ | ⟨h, -⟩)
      · exact pair_nil h1 h2
      · exact absurd h hf
theorem best_pair (q : Qy) (w : World) (hQ : IsQ w q) (hok : QOk q) (hsm : q.bulk ≤ 1048576) (hT : AbT w) : ∃ BL : List Int, BL.length ≤ 3 ∧ (∀ D, Below w.heap.size w D → Calls Tryz.prog 11 #[q.val] D (BestAns BL D)) ∧ (∀ D, Below w.heap.size w D → Calls Tryz.prog 12 #[q.val] D (BestAns BL D)) := by
  obtain ⟨B, hB⟩ : ∃ B : Int → Bool, ∀ d, B d = true ↔ (dialB d = true ∧ FineQ q ∧ notesL d q = []) := ⟨fun d => @decide (dialB d = true ∧ FineQ q ∧ notesL d q = []) (Classical.propDecidable _), fun d => by simp⟩
  have look : ∀ {d : Int} {UL : List Nt} {z : Int} {X : World} {e : Ending} {w' : World}, ((z == 0 && ((UL.length : Nat) : Int) == 0) = true ↔ dialB d = true ∧ FineQ q ∧ notesL d q = []) → PairAns UL z X e w' → LookAns (B d) X e w' := by
    rintro d UL z X e w' h1 ⟨a, cap, rfl, -, h2⟩
    exact ⟨a, _, cap, z, rfl, (by show _ = _; rw [Bool.eq_iff_iff, hB]; exact h1), h2⟩
  refine ⟨bestM B 3, bestM_len B 3, fun D hD => best_any q B D fun k _ X hX => ?_, fun D hD => refBest_any q B D fun k _ X hX => ?_⟩
  · obtain ⟨UL, z, -, h1, h2, -⟩ := notes_pair ((k : Int) + 1) q w hQ hok hsm hT
    exact (h2 X (hD.trans (hX.mono hD.size))).mono fun e w' h => look h1 h
  · obtain ⟨UL, z, -, h1, -, h2⟩ := notes_pair ((k : Int) + 1) q w hQ hok hsm hT
    exact (h2 X (hD.trans (hX.mono hD.size))).mono fun e w' h => look h1 h
end Go.Proofs.YtfnfegcjgnbgbaaGreatDoor
namespace Go.Proofs.YtfnfegcjgnbgbaaGreatDoor
open Go.RowKit Go.Shelf

theorem boxQ_t (q : Qy) (w : World) : ∃ A, w.alloc (.cells q.cells 28) = A ∧ Below w.heap.size w A ∧ A.heap.size = w.heap.size + 1 ∧ QB A w.heap.size q :=
  ⟨_, rfl, (Below.refl _ w).alloc (Nat.le_refl _) _, by simp, QB.new w q⟩
set_option maxRecDepth 100000 in
set_option maxHeartbeats 16000000 in
theorem ableTells_walk (d : Int) (q : Qy) (z : Int) (w : World) (hQ : IsQ w q) (hok : QOk q) (hsm : q.bulk ≤ 1048576) (hT : AbT w) : Calls Tryz.prog 3 #[.int .i64 d, q.val, .int .i64 z] w fun e w' => e = .returned (.bool true) ∧ Below w.heap.size w w' := by
  obtain ⟨A, hA, hB, hs, hq⟩ := boxQ_t q w
  have hc0 := lightQ_any q A (hQ.later hB) hsm
  have hcw : ∀ D, Below A.heap.size A D → Calls Tryz.prog 6 #[] D fun e w' => e = .returned (.bool true) ∧ w' = D := fun D h => awake22_any D ((hT.later hB).later h)
  obtain ⟨UL, zu, hul, U1, U2⟩ := uses_pair q A (hQ.later hB) hok hsm (hT.later hB)
  obtain ⟨NL, zn, hnl, -, N1, N2⟩ := notes_pair d q A (hQ.later hB) hok hsm (hT.later hB)
  obtain ⟨BL, hbl, B1, B2⟩ := best_pair q A (hQ.later hB) hok hsm (hT.later hB)
  have L1 : ∀ D, Below A.heap.size A D → Calls Tryz.prog 14 #[.int .i64 d, .int .i64 z] D fun e w' => e = .returned (.bool (lacksB d z)) ∧ w' = D := fun D h => lacks_any d z D ((hT.later hB).later h)
  have L2 : ∀ D, Calls Tryz.prog 15 #[.int .i64 d, .int .i64 z] D fun e w' => e = .returned (.bool (lacksB d z)) ∧ w' = D := fun D => refLacks_any d z D
  have W1 : ∀ D, Below A.heap.size A D → Calls Tryz.prog 16 #[.int .i64 z] D fun e w' => e = .returned (.string (wordZ z)) ∧ w' = D := fun D h => word_any z D ((hT.later hB).later h)
  have W2 : ∀ D, Calls Tryz.prog 17 #[.int .i64 z] D fun e w' => e = .returned (.string (wordZ z)) ∧ Below D.heap.size D w' := fun D => refWord_any z D
  have HB : Hid (Below w.heap.size w A ∧ QB A w.heap.size q) := ⟨hB, hq⟩
  obtain ⟨⟨a0, a1, a2, a3, a4, a5⟩, a6, a7, a8, a9, a10⟩ := hq.at0
  have pre : Hid (∀ w1, Below A.heap.size A w1 → QB w1 w.heap.size q) := fun w1 h => HB.out.2.later h
  obtain ⟨lb, hlb⟩ : ∃ lb, lb = lacksB d z := ⟨_, rfl⟩
  obtain ⟨wz, hwz⟩ : ∃ wz, wz = wordZ z := ⟨_, rfl⟩
  rw [← hlb] at L1 L2
  rw [← hwz] at W1 W2
  clear hQ hok hsm hT hB hs hq hlb hwz
  have HUL : Hid (UL.length ≤ 300 ∧ NL.length ≤ 300 ∧ BL.length ≤ 3) := ⟨hul, hnl, hbl⟩
  clear hul hnl
  obtain ⟨nu, hnu⟩ : ∃ nu, nu = UL.length := ⟨_, rfl⟩
  obtain ⟨nn, hnn⟩ : ∃ nn, nn = NL.length := ⟨_, rfl⟩
  obtain ⟨nb, hnb⟩ : ∃ nb, nb = BL.length := ⟨_, rfl⟩
  have U1' : ∀ D, Below A.heap.size A D → Calls Tryz.prog 7 #[q.val] D fun e w' => ∃ (a : Option Addr) (cap : Nat), e = .returned (.tuple #[.slice a nu cap, .int .i64 zu]) ∧ Hid (∀ i p, UL[i]? = some p → ∃ g va vc, NtAt w' a i p g va vc) ∧ Below D.heap.size D w' := fun D h => by rw [hnu]; exact U1 D h
  have U2' : ∀ D, Below A.heap.size A D → Calls Tryz.prog 8 #[q.val] D fun e w' => ∃ (a : Option Addr) (cap : Nat), e = .returned (.tuple #[.slice a nu cap, .int .i64 zu]) ∧ Hid (∀ i p, UL[i]? = some p → ∃ g va vc, NtAt w' a i p g va vc) ∧ Below D.heap.size D w' := fun D h => by rw [hnu]; exact U2 D h
  have N1' : ∀ D, Below A.heap.size A D → Calls Tryz.prog 9 #[.int .i64 d, q.val] D fun e w' => ∃ (a : Option Addr) (cap : Nat), e = .returned (.tuple #[.slice a nn cap, .int .i64 zn]) ∧ Hid (∀ i p, NL[i]? = some p → ∃ g va vc, NtAt w' a i p g va vc) ∧ Below D.heap.size D w' := fun D h => by rw [hnn]; exact N1 D h
  have N2' : ∀ D, Below A.heap.size A D → Calls Tryz.prog 10 #[.int .i64 d, q.val] D fun e w' => ∃ (a : Option Addr) (cap : Nat), e = .returned (.tuple #[.slice a nn cap, .int .i64 zn]) ∧ Hid (∀ i p, NL[i]? = some p → ∃ g va vc, NtAt w' a i p g va vc) ∧ Below D.heap.size D w' := fun D h => by rw [hnn]; exact N2 D h
  have B1' : ∀ D, Below A.heap.size A D → Calls Tryz.prog 11 #[q.val] D fun e w' => ∃ (a : Option Addr) (cap : Nat), e = .returned (.slice a nb cap) ∧ Hid (∀ k, k < nb → ∃ g, a = some ⟨g, 0, none⟩ ∧ w'.cell? ⟨g, k, none⟩ = some (.int .i64 (BL.getD k 0))) ∧ Below D.heap.size D w' := fun D h => by rw [hnb]; exact B1 D h
  have B2' : ∀ D, Below A.heap.size A D → Calls Tryz.prog 12 #[q.val] D fun e w' => ∃ (a : Option Addr) (cap : Nat), e = .returned (.slice a nb cap) ∧ Hid (∀ k, k < nb → ∃ g, a = some ⟨g, 0, none⟩ ∧ w'.cell? ⟨g, k, none⟩ = some (.int .i64 (BL.getD k 0))) ∧ Below D.heap.size D w' := fun D h => by rw [hnb]; exact B2 D h
  have HN : Hid (nu = UL.length ∧ nn = NL.length) := ⟨hnu, hnn⟩
  have hnb3 : nb ≤ 3 := by omega
  clear hnu hnn hnb hbl U1 U2 N1 N2 B1 B2
  have S1 : Hid (∀ (a1 a2 : Option Addr) (c1 c2 : Nat) (W : World), (∀ i p, UL[i]? = some p → ∃ g va vc, NtAt W a1 i p g va vc) → (∀ i p, UL[i]? = some p → ∃ g va vc, NtAt W a2 i p g va vc) → Calls Tryz.prog 13 #[.slice a1 nu c1, .slice a2 nu c2] W fun e W' => e = .returned (.bool true) ∧ Below W.heap.size W W') := fun a1 a2 c1 c2 W h1 h2 =>
    refSameN_any a1 a2 nu c1 c2 UL W HN.out.1.symm (by have := HUL.out.1; rw [HN.out.1]; omega) h1 h2
  have S2 : Hid (∀ (a1 a2 : Option Addr) (c1 c2 : Nat) (W : World), (∀ i p, NL[i]? = some p → ∃ g va vc, NtAt W a1 i p g va vc) → (∀ i p, NL[i]? = some p → ∃ g va vc, NtAt W a2 i p g va vc) → Calls Tryz.prog 13 #[.slice a1 nn c1, .slice a2 nn c2] W fun e W' => e = .returned (.bool true) ∧ Below W.heap.size W W') := fun a1 a2 c1 c2 W h1 h2 =>
    refSameN_any a1 a2 nn c1 c2 NL W HN.out.2.symm (by have := HUL.out.2.1; rw [HN.out.2]; omega) h1 h2
  have keep : ∀ {L : List Nt} {W W' : World} {a : Option Addr}, (∀ i p, L[i]? = some p → ∃ g va vc, NtAt W a i p g va vc) → Below W.heap.size W W' → ∀ i p, L[i]? = some p → ∃ g va vc, NtAt W' a i p g va vc := fun h hB i p hp => by
    obtain ⟨g, va, vc, h1⟩ := h i p hp
    exact ⟨g, va, vc, h1.later hB⟩
  have KEEP : Hid (∀ {L : List Nt} {W W' : World} {a : Option Addr}, (∀ i p, L[i]? = some p → ∃ g va vc, NtAt W a i p g va vc) → Below W.heap.size W W' → ∀ i p, L[i]? = some p → ∃ g va vc, NtAt W' a i p g va vc) := keep
  clear keep
  go_enter Tryz.func3, Tryz.ntmps3
  go_upto_region 1 with fail
  clear hA
  go_upto_if 20 with (go_at_call 5; refine hc0.mono ?_; clear hc0; rintro e w1 ⟨b, rfl, hB1⟩)
  cases b with
  | false =>
    go_wp2_with (go_at_call 6; refine (hcw _ hB1).mono ?_; clear hcw; rintro e w2 ⟨rfl, rfl⟩)
    go_ret
    exact ⟨rfl, HB.out.1.trans (hB1.mono HB.out.1.size)⟩
  | true =>
    clear a0 a1 a2 a3 a4 a5 a6 a7 a8 a9 a10
    obtain ⟨⟨a0, a1, a2, a3, a4, a5⟩, a6, a7, a8, a9, a10⟩ := (pre.out _ hB1).at0
    go_upto_region 9 with (first
      | (go_at_call 12; refine (B2' _ hB6).mono ?_; clear B2'; rintro e w7 ⟨y0, yc, rfl, Y, hBd7⟩; have hB7 := hB6.trans (hBd7.mono hB6.size); clear a0 a1 a2 a3 a4 a5 a6 a7 a8 a9 a10)
      | (go_at_call 11; refine (B1' _ hB5).mono ?_; clear B1'; rintro e w6 ⟨x0, xc, rfl, X, hBd6⟩; have hB6 := hB5.trans (hBd6.mono hB5.size); clear a0 a1 a2 a3 a4 a5 a6 a7 a8 a9 a10; obtain ⟨⟨a0, a1, a2, a3, a4, a5⟩, a6, a7, a8, a9, a10⟩ := (pre.out _ hB6).at0)
      | (go_at_call 10; refine (N2' _ hB4).mono ?_; clear N2'; rintro e w5 ⟨n0, nc, rfl, RN, hBd5⟩; have hB5 := hB4.trans (hBd5.mono hB4.size); clear a0 a1 a2 a3 a4 a5 a6 a7 a8 a9 a10; obtain ⟨⟨a0, a1, a2, a3, a4, a5⟩, a6, a7, a8, a9, a10⟩ := (pre.out _ hB5).at0)
      | (go_at_call 9; refine (N1' _ hB3).mono ?_; clear N1'; rintro e w4 ⟨c0, cc, rfl, RC, hBd4⟩; have hB4 := hB3.trans (hBd4.mono hB3.size); clear a0 a1 a2 a3 a4 a5 a6 a7 a8 a9 a10; obtain ⟨⟨a0, a1, a2, a3, a4, a5⟩, a6, a7, a8, a9, a10⟩ := (pre.out _ hB4).at0)
      | (go_at_call 8; refine (U2' _ hB2).mono ?_; clear U2'; rintro e w3 ⟨b0, bc, rfl, RB, hBd3⟩; have hB3 := hB2.trans (hBd3.mono hB2.size); clear a0 a1 a2 a3 a4 a5 a6 a7 a8 a9 a10; obtain ⟨⟨a0, a1, a2, a3, a4, a5⟩, a6, a7, a8, a9, a10⟩ := (pre.out _ hB3).at0)
      | (go_at_call 7; refine (U1' _ hB1).mono ?_; clear U1'; rintro e w2 ⟨a0', ac, rfl, RA, hBd2⟩; have hB2 := hB1.trans (hBd2.mono hB1.size); clear a0 a1 a2 a3 a4 a5 a6 a7 a8 a9 a10; obtain ⟨⟨a0, a1, a2, a3, a4, a5⟩, a6, a7, a8, a9, a10⟩ := (pre.out _ hB2).at0))
    have h37 : Below w3.heap.size w3 w7 := ((hBd4.trans (hBd5.mono hBd4.size)).trans (hBd6.mono (Nat.le_trans hBd4.size hBd5.size))).trans (hBd7.mono (Nat.le_trans (Nat.le_trans hBd4.size hBd5.size) hBd6.size))
    have h27 : Below w2.heap.size w2 w7 := hBd3.trans (h37.mono hBd3.size)
    have h57 : Below w5.heap.size w5 w7 := hBd6.trans (hBd7.mono hBd6.size)
    have h47 : Below w4.heap.size w4 w7 := hBd5.trans (h57.mono hBd5.size)
    have cs1 := S1.out a0' b0 ac bc w7 (KEEP.out RA.out h27) (KEEP.out RB.out h37)
    have cs2 : ∀ D, Below w7.heap.size w7 D → _ := fun D hD => S2.out c0 n0 cc nc D (KEEP.out (KEEP.out RC.out h47) hD) (KEEP.out (KEEP.out RN.out h57) hD)
    have HX : Hid (∀ k, k < nb → ∀ D, Below w7.heap.size w7 D → ∃ g g', x0 = some ⟨g, 0, none⟩ ∧ y0 = some ⟨g', 0, none⟩ ∧ D.cell? ⟨g, k, none⟩ = some (.int .i64 (BL.getD k 0)) ∧ D.cell? ⟨g', k, none⟩ = some (.int .i64 (BL.getD k 0))) := fun k hk D hD => by
      obtain ⟨g, h1, h2⟩ := X.out k hk
      obtain ⟨g', h3, h4⟩ := Y.out k hk
      exact ⟨g, g', h1, h3, cell_later (cell_later h2 hBd7) hD, cell_later h4 hD⟩
    have HB7 : Hid (Below A.heap.size A w7) := hB7
    clear hB1 hB2 hB3 hB4 hB5 hB6 hBd2 hBd3 hBd4 hBd5 hBd6 hBd7 h27 h37 h47 h57 RA RB RC RN X Y S1 S2 KEEP pre hB7
    go_wp2_with (first
      | (go_at_call 13; refine (cs2 _ hC1).mono ?_; clear cs2; rintro e w9 ⟨rfl, hCd2⟩; have hC2 := hC1.trans (hCd2.mono hC1.size))
      | (go_at_call 13; refine cs1.mono ?_; clear cs1; rintro e w8 ⟨rfl, hC1⟩))
    clear hC1 hCd2
    go_loopw [17] (fun u wr => ∃ i : Nat, i ≤ nb ∧ u = .int .i64 i ∧ Below w7.heap.size w7 wr) (fun u _ => nb - (intOf u).toNat)
    case atStart => exact ⟨0, Nat.zero_le _, rfl, hC2⟩
    case round =>
      obtain ⟨i, hi, rfl, hC⟩ := hrel
      by_cases hin : i < nb
      · obtain ⟨g, g', e1, e2, f1, f2⟩ := HX.out i hin wr hC
        have HK : Hid (i < nb) := hin
        obtain ⟨v, hv⟩ : ∃ v, v = BL.getD i 0 := ⟨_, rfl⟩
        rw [← hv] at f1 f2
        clear hv
        subst e1 e2
        go_wp2_with fail
        go_quiet (fail)
        go_wp2
        go_roundw
        case rel => exact ⟨i + 1, HK.out, by go_num, bd hC _⟩
        case measure => have := HK.out; (try simp [intOf]); omega
      · have hi' : i = nb := by omega
        subst hi'
        have hD := HB7.out.trans (hC.mono HB7.out.size)
        have seq := str_yes (rfl : wz = wz)
        have leq : (lb == lb) = true := by simp
        go_wp2_with (first
          | (go_at_call 6; refine (hcw _ hE).mono ?_; clear hcw; rintro e we ⟨rfl, rfl⟩)
          | (go_at_call 17; refine (W2 _).mono ?_; clear W2; rintro e wd ⟨rfl, hEd⟩; have hE := hD.trans (hEd.mono hD.size))
          | (go_at_call 16; refine (W1 _ hD).mono ?_; clear W1; rintro e wc ⟨rfl, rfl⟩)
          | (go_at_call 15; refine (L2 _).mono ?_; clear L2; rintro e wb ⟨rfl, rfl⟩)
          | (go_at_call 14; refine (L1 _ hD).mono ?_; clear L1; rintro e wa ⟨rfl, rfl⟩))
        go_ret
        exact ⟨rfl, HB.out.1.trans (hE.mono HB.out.1.size)⟩
end Go.Proofs.YtfnfegcjgnbgbaaGreatDoor
namespace Go.Proofs.YtfnfegcjgnbgbaaGreatDoor
open Go.RowKit Go.ChangeShapes Go.WideShapes

section
variable {H : Type} {enc : TypeId × Value → H} {w : World} {base : Nat} {spare : Nat → Bool} {held : Bool}
theorem val_under : ∃ f0 f1 f2 : Field, Tryz.prog.underlying 49 = some (.struct #[f0, f1, f2]) ∧ f0.offset = 0 ∧ f1.offset = 1 ∧ f2.offset = 2 ∧ f0.type = 3 ∧ f1.type = 2 ∧ f2.type = 9 := ⟨_, _, _, Tryz.underlying49, rfl, rfl, rfl, rfl, rfl, rfl⟩
theorem cells_v : Tryz.prog.cellsOf 49 = 3 := by kernel_rfl
theorem cells_n : Tryz.prog.cellsOf 2 = 1 := by kernel_rfl
/-- The cells of a value, read. -/
theorem trod_val {fuel : Nat} {cs : List Value} {x : DataW H × List MemPlace} (h : DataW.trod enc Tryz.prog w base spare held fuel 49 cs = some x) :
    ∃ q : Val, cs = [.int .i64 q.k, .int .i64 q.n, .string q.s] := by
  obtain ⟨f0, f1, f2, hu, o0, o1, o2, t0, t1, t2⟩ := val_under
  obtain ⟨y0, y1, y2, m, rfl, hl, g0, g1, g2⟩ := Deep.trod_struct3 hu h
  rw [cells_v] at hl
  rw [o0, t0, cells_i] at g0
  rw [o1, t1, cells_n] at g1
  rw [o2, t2, cells_s] at g2
  match cs, hl with
  | [c0, c1, c2], _ =>
    obtain ⟨k, e0, rfl, w0⟩ := DataW.trod_int Tryz.underlying3 g0
    obtain ⟨n, e1, rfl, w1⟩ := DataW.trod_int Tryz.underlying2 g1
    obtain ⟨s, e2, rfl, w2⟩ := DataW.trod_string Tryz.underlying9 g2
    simp at e0 e1 e2
    subst e0 e1 e2
    exact ⟨⟨k, n, s⟩, rfl⟩
end
end Go.Proofs.YtfnfegcjgnbgbaaGreatDoor
