/-
  The document's own Vars: each name once, with its Type and kind.
  The law's own 'names': the same texts.
  Rows of texts as lists; of no function.
-/
import Derived.Test.YtinnhaojmnmliaaDPatUses
import Derived.Test.YtinnhaojmnmliaaDPatVars
import Derived.Test.YtinnhaojmnmliaaDPatFresh
import Derived.Test.YtinnhaojmnmliaaDTxt
import Derived.Test.YtinnhaojmnmliaaDExprRange
import Derived.BigQuiet
namespace Go.Proofs.Ytinnhaojmnmliaa
open Go.RowKit

def f1 (l : List Pt) : List Value := l.map fun y => .string y.s
def f2 (l : List Pt) : List Value := l.map fun y => .string y.t
def f3 (l : List Pt) : List Value := l.map fun y => .int .i64 y.k
theorem vs1_all (l : List Pt) : vs1 l l.length = f1 l := by simp [vs1, f1]
theorem vs2_all (l : List Pt) : vs2 l l.length = f2 l := by simp [vs2, f2]
theorem vs3_all (l : List Pt) : vs3 l l.length = f3 l := by simp [vs3, f3]
section
variable {base : Nat} {W : World} {v1 v2 v3 : Value} {x1 x2 x3 : List Value}
theorem R3.later {W' : World} (h : R3 base W v1 v2 v3 x1 x2 x3) (hB : Below W.heap.size W W') : R3 base W' v1 v2 v3 x1 x2 x3 := ⟨own_laterS h.o1 hB, own_laterS h.o2 hB, own_laterS h.o3 hB, h.a12, h.a13, h.a23⟩
theorem R3.box (h : R3 base W v1 v2 v3 x1 x2 x3) (t : TypeId) (u : Value) : Bx (W.alloc (.cells #[u] t)) v1 v2 v3 W.heap.size t u :=
  ⟨Boxed.new W t u, fun e => by have := (h.o1.lt _ e).2; omega, fun e => by have := (h.o2.lt _ e).2; omega, fun e => by have := (h.o3.lt _ e).2; omega⟩
/-- A row of names, by index. -/
theorem own_f1 {l : List Pt} (h : W.ownsRow base 9 1 v1 (f1 l).length (f1 l)) : ∃ a cap, v1 = .slice a l.length cap ∧ l.length ≤ cap ∧ ∀ (j : Nat) (y : Pt), l[j]? = some y → ∃ g, a = some ⟨g, 0, none⟩ ∧ W.cell? ⟨g, j, none⟩ = some (.string y.s) := by
  have e0 : (f1 l).length = l.length := by simp [f1]
  rw [e0] at h
  rcases h.2 with ⟨rfl, e⟩ | ⟨g, cap, cur, rfl, hg, hc, hnc, hcm, hs, ht⟩
  · exact ⟨none, 0, by rw [e], by omega, fun j y hy => by have := (List.getElem?_eq_some_iff.1 hy).1; omega⟩
  · refine ⟨_, cap, rfl, hnc, fun j y hy => ⟨g, rfl, ?_⟩⟩
    have hj := (List.getElem?_eq_some_iff.1 hy).1
    simp only [World.cell?, hc]
    have h1 : (f1 l)[j]? = some (.string y.s) := by simp [f1, hy]
    rw [← ht, List.getElem?_take_of_lt (by omega), Array.getElem?_toList] at h1
    exact h1
end
/-- Has one of the first the name? -/
def hadB (l : List Pt) (s : ByteArray) (m : Nat) : Bool := (l.take m).any fun z => decide (z.s = s)
theorem hadB_next {l : List Pt} {s : ByteArray} {m : Nat} {y : Pt} (h : l[m]? = some y) : hadB l s (m + 1) = (hadB l s m || decide (y.s = s)) := by
  unfold hadB
  rw [List.take_add_one, h]
  simp [List.any_append]
theorem hadB_all (l : List Pt) (s : ByteArray) : hadB l s l.length = l.any fun z => decide (z.s = s) := by unfold hadB; rw [List.take_length]
set_option maxRecDepth 100000 in
set_option maxHeartbeats 16000000 in
theorem refVars12_any (x : Pt) (w : World) (hX : IsP w x) (hsm : x.size ≤ 1048576) :
    Calls Try.prog 8 #[x.val] w fun e w' => ∃ v1 v2 v3, e = .returned (.tuple #[v1, v2, v3]) ∧ R3 w.heap.size w' v1 v2 v3 (f1 (firstL (usesP x))) (f2 (firstL (usesP x))) (f3 (firstL (usesP x))) ∧ Below w.heap.size w w' := by
  obtain ⟨A, hA, hB, hs, hn⟩ := boxP_one x w
  obtain ⟨a0, a1, a2, a3, a4, a5⟩ := hn.at0
  have HBA : Hid (Below w.heap.size w A) := hB
  have C1 : Hid (Calls Try.prog 30 #[x.val] A (UsesAns x A)) := refUses_any x A (hX.later hB) hsm
  have hul : (usesP x).length ≤ 1048576 := by have := length_uses x; omega
  have HFL : Hid (∀ i, (firstL ((usesP x).take i)).length ≤ 1048576) := fun i => by
    have h1 := length_firstL ((usesP x).take i)
    rw [List.length_take] at h1
    omega
  clear hB hn hX hsm hs
  unfold UsesAns at C1
  generalize usesP x = U at C1 hul HFL ⊢
  go_enter Try.func8, Try.ntmps8
  go_wp2_with (first | (go_at_call 30; refine C1.out.mono ?_; rintro e w1 ⟨u, rfl, hu, hB1⟩; obtain ⟨au, capu, rfl, -, hcu, hcm, hus⟩ := own_uses hu; have HUS : Hid (∀ (j : Nat) (y : Pt), U[j]? = some y → _) := hus; clear hus hu))
  clear a0 a1 a2 a3 a4 a5 hA C1
  have HB1 : Hid (Below A.heap.size A w1) := hB1
  clear hB1
  go_loopw [5, 6, 7, 9] (fun u5 u6 u7 u9 wr => ∃ k : Nat, k ≤ U.length ∧ u9 = .int .i64 k ∧ Hid (R3 w1.heap.size wr u5 u6 u7 (f1 (firstL (U.take k))) (f2 (firstL (U.take k))) (f3 (firstL (U.take k)))) ∧ Below w1.heap.size w1 wr) (fun _ _ _ u9 _ => U.length - (intOf u9).toNat)
  case atStart => exact ⟨0, Nat.zero_le _, rfl, R3.nil _ _, Below.refl _ _⟩
  case round =>
    obtain ⟨k, hk, rfl, HR, hB⟩ := hrel
    by_cases hkn : k < U.length
    · obtain ⟨y, hy⟩ : ∃ y, U[k]? = some y := ⟨U[k]'hkn, List.getElem?_eq_getElem _⟩
      obtain ⟨g, rfl, hg1, hg2, us0, us1, us2⟩ := HUS.out k y hy
      have HKN : Hid (k < U.length) := hkn
      have HSN : Hid (firstL (U.take (k + 1)) = addU (firstL (U.take k)) y) := by show _ = _; rw [List.take_add_one, hy]; exact firstL_snoc _ _
      have hFl := HFL.out k
      obtain ⟨F, hF⟩ : ∃ F, F = firstL (U.take k) := ⟨_, rfl⟩
      rw [← hF] at HR HSN hFl
      obtain ⟨a5, cap5, rfl, hc5, hrow5⟩ := own_f1 HR.out.o1
      have HRW : Hid (∀ (j : Nat) (z : Pt), F[j]? = some z → ∃ g, a5 = some ⟨g, 0, none⟩ ∧ wr.cell? ⟨g, j, none⟩ = some (.string z.s)) := hrow5
      have HUC : Hid (w1.cell? ⟨g, k * 3, none⟩ = some (.string y.s) ∧ w1.cell? ⟨g, k * 3 + 1, none⟩ = some (.string y.t) ∧ w1.cell? ⟨g, k * 3 + 2, none⟩ = some (.int .i64 y.k)) := ⟨us0, us1, us2⟩
      clear hy us0 us1 us2 hF hrow5 hg1 hg2
      go_wp2_with fail
      have hBr := hB
      clear hB
      obtain ⟨w2, hw2⟩ : ∃ w2, w2 = wr := ⟨_, rfl⟩
      rw [← hw2] at hBr HR HRW ⊢
      clear hw2
      go_loopw [10, 11] (fun h m ws => ∃ j : Nat, j ≤ F.length ∧ h = .bool (hadB F y.s j) ∧ m = .int .i64 j ∧ Below w2.heap.size w2 ws) (fun _ m _ => F.length - (intOf m).toNat)
      case atStart => exact ⟨0, Nat.zero_le _, rfl, rfl, Below.refl _ _⟩
      case round =>
        obtain ⟨j, hj, rfl, rfl, hBs⟩ := hrel
        by_cases hjn : j < F.length
        · obtain ⟨z, hz⟩ : ∃ z, F[j]? = some z := ⟨F[j]'hjn, List.getElem?_eq_getElem _⟩
          obtain ⟨g5, rfl, c5⟩ := HRW.out j z hz
          have c5' := cell_later c5 hBs
          have hb1s := hBr.trans (hBs.mono hBr.size)
          have c6' := cell_later HUC.out.1 hb1s
          have HNX : Hid (hadB F y.s (j + 1) = (hadB F y.s j || decide (z.s = y.s))) := hadB_next hz
          have HJN : Hid (j < F.length) := hjn
          clear c5 hz hb1s
          cases hh : hadB F y.s j with
          | true =>
            rw [hh] at HNX
            clear hh c5' c6'
            go_wp2_with fail
            go_quiet (fail)
            go_wp2
            go_roundw
            case rel => exact ⟨j + 1, HJN.out, by rw [HNX.out]; rfl, by go_num, bd hBs _⟩
            case measure => have := HJN.out; simp [intOf]; omega
          | false =>
            rw [hh] at HNX
            clear hh
            by_cases e : z.s = y.s
            · have t := str_yes e
              rw [decide_eq_true e] at HNX
              clear e
              go_wp2_with fail
              go_quiet (fail)
              go_wp2
              go_roundw
              case rel => exact ⟨j + 1, HJN.out, by rw [HNX.out]; rfl, by go_num, bd hBs _⟩
              case measure => have := HJN.out; simp [intOf]; omega
            · have t := str_not e
              rw [decide_eq_false e] at HNX
              clear e
              go_wp2_with fail
              go_quiet (fail)
              go_wp2
              go_roundw
              case rel => exact ⟨j + 1, HJN.out, by rw [HNX.out]; rfl, by go_num, bd hBs _⟩
              case measure => have := HJN.out; simp [intOf]; omega
        · obtain rfl : j = F.length := by omega
          rw [hadB_all]
          have HRs : Hid (R3 w1.heap.size wr (.slice a5 F.length cap5) u6 u7 (f1 F) (f2 F) (f3 F)) := HR.out.later hBs
          have hb1s := hBr.trans (hBs.mono hBr.size)
          cases hh : F.any fun z => decide (z.s = y.s) with
          | true =>
            have HAD : Hid (firstL (U.take (k + 1)) = F) := by show _ = _; rw [HSN.out]; unfold addU; rw [if_pos hh]
            clear hh
            go_wp2
            go_roundw
            case rel => exact ⟨k + 1, HKN.out, by go_num, by show R3 _ _ _ _ _ _ _ _; rw [HAD.out]; exact HRs.out, hb1s⟩
            case measure => have := HKN.out; simp [intOf]; omega
          | false =>
            have HAD : Hid (firstL (U.take (k + 1)) = F ++ [y]) := by show _ = _; rw [HSN.out]; unfold addU; rw [if_neg (by rw [hh]; simp)]
            have hsz : w1.heap.size ≤ wr.heap.size := hb1s.size
            obtain ⟨z1, W1, r1, q1, b1, e1⟩ := (HRs.out.alloc (.cells #[.string y.s] 9)).app1 (by simp; omega) (by simp [f1]; omega) (HRs.out.box 9 (.string y.s))
            have hbW1 : Below w1.heap.size wr W1 := ((Below.refl _ wr).alloc hsz _).trans e1
            obtain ⟨z2, W2, r2, q2, b2, e2⟩ := (q1.alloc (.cells #[.string y.t] 9)).app2 (by simp; have := hbW1.size; omega) (by simp [f2]; omega) (q1.box 9 (.string y.t))
            have hbW2 : Below w1.heap.size wr W2 := hbW1.trans (((Below.refl _ W1).alloc (Nat.le_trans hsz hbW1.size) _).trans e2)
            obtain ⟨z3, W3, r3, q3, b3, e3⟩ := (q2.alloc (.cells #[.int .i64 y.k] 3)).app3 (by simp; have := hbW2.size; omega) (by simp [f3]; omega) (q2.box 3 (.int .i64 y.k))
            have hbW3 : Below w1.heap.size wr W3 := hbW2.trans (((Below.refl _ W2).alloc (Nat.le_trans hsz hbW2.size) _).trans e3)
            have HR1 : Hid (_ = _) := r1
            have HR2 : Hid (_ = _) := r2
            have HR3 : Hid (_ = _) := r3
            have cc0 := cell_later HUC.out.1 hb1s
            have cc1 := (hb1s.trans hbW1).cell (p := ⟨g, k * 3 + 1, none⟩) (World.block_lt_of_cell? w1 _ HUC.out.2.1) |>.trans HUC.out.2.1
            have cc2 := (hb1s.trans hbW2).cell (p := ⟨g, k * 3 + 2, none⟩) (World.block_lt_of_cell? w1 _ HUC.out.2.2) |>.trans HUC.out.2.2
            have HQ : Hid (R3 w1.heap.size W3 z1 z2 z3 (f1 (firstL (U.take (k + 1)))) (f2 (firstL (U.take (k + 1)))) (f3 (firstL (U.take (k + 1))))) := by
              show R3 _ _ _ _ _ _ _ _
              rw [HAD.out]
              unfold f1 f2 f3 at q3 ⊢
              simp only [List.map_append, List.map_cons, List.map_nil]
              exact q3
            have HBW : Hid (Below w1.heap.size w1 W3) := hb1s.trans hbW3
            clear hh r1 r2 r3 q1 q2 q3 b1 b2 b3 e1 e2 e3 hbW1 hbW2 hbW3 hsz
            go_wp2_with (first
              | (at_builtin; refine wpList_append_run rfl (.tmp 41) (.tmp 47) 28 rfl _ _ _ rfl rfl HR1.out ?_; clear HR1)
              | (at_builtin; refine wpList_append_run rfl (.tmp 49) (.tmp 55) 28 rfl _ _ _ rfl rfl HR2.out ?_; clear HR2)
              | (at_builtin; refine wpList_append_run rfl (.tmp 57) (.tmp 63) 25 rfl _ _ _ rfl rfl HR3.out ?_; clear HR3))
            go_roundw
            case rel => exact ⟨k + 1, HKN.out, by go_num, HQ.out, HBW.out⟩
            case measure => have := HKN.out; simp [intOf]; omega
    · obtain rfl : k = U.length := by omega
      go_wp2
      refine bodyPost_ret (results_tmp3 rfl _ _ _) rfl ?_
      have hR := HR.out
      rw [List.take_length] at hR
      exact ⟨_, _, _, rfl, ⟨own_low3 hR.o1 (Nat.le_trans HBA.out.size HB1.out.size), own_low3 hR.o2 (Nat.le_trans HBA.out.size HB1.out.size), own_low3 hR.o3 (Nat.le_trans HBA.out.size HB1.out.size), hR.a12, hR.a13, hR.a23⟩, HBA.out.trans ((HB1.out.trans (hB.mono HB1.out.size)).mono HBA.out.size)⟩
end Go.Proofs.Ytinnhaojmnmliaa
namespace Go.Proofs.Ytinnhaojmnmliaa
open Go.RowKit

set_option maxRecDepth 100000 in
set_option maxHeartbeats 1000000 in
theorem names12_same (a a' : Option Addr) (n cap cap' : Nat) (S : Nat → ByteArray) (w : World) (h : Txs w a n S) (h' : Txs w a' n S) (hn : n ≤ 1048576) :
    Calls Try.prog 13 #[.slice a n cap, .slice a' n cap'] w fun e w' => e = .returned (.bool true) ∧ Below w.heap.size w w' := by
  have HT : Hid (Txs w a n S) := h
  have HU : Hid (Txs w a' n S) := h'
  clear h h'
  go_enter Try.func13, Try.ntmps13
  go_wp2
  go_loopw [5] (fun i wr => ∃ k : Nat, k ≤ n ∧ i = .int .i64 k ∧ Below w.heap.size w wr) (fun i _ => n - (intOf i).toNat)
  case atStart => exact ⟨0, Nat.zero_le _, rfl, Below.refl _ _⟩
  case round =>
    obtain ⟨k, hk, rfl, hB⟩ := hrel
    by_cases hkn : k < n
    · obtain ⟨b, o, rfl, hc⟩ := (HT.out.later hB) (by omega)
      obtain ⟨b', o', rfl, hc'⟩ := (HU.out.later hB) (by omega)
      have c := hc k hkn
      have c' := hc' k hkn
      have HK : Hid (k < n) := hkn
      clear hc hc'
      go_wp2_with fail
      go_quiet (fail)
      go_wp2
      go_roundw
      case rel => exact ⟨k + 1, HK.out, by go_num, bd hB _⟩
      case measure => have := HK.out; simp [intOf]; omega
    · obtain rfl : k = n := by omega
      go_wp2
      go_ret
      exact ⟨rfl, hB⟩
end Go.Proofs.Ytinnhaojmnmliaa
namespace Go.Proofs.Ytinnhaojmnmliaa
open Go.RowKit

theorem infoS : (Try.prog.info? 9).map (fun i => (i.zero, i.size, i.bytes)) = some (some (.string ⟨#[]⟩), 1, 16) := by kernel_rfl
/-- Texts as cells. -/
def cellsS (l : List ByteArray) : List Value := l.map Value.string
def lstS (S : Nat → ByteArray) : Nat → List ByteArray
  | 0 => []
  | n + 1 => lstS S n ++ [S n]
theorem lstS_len (S : Nat → ByteArray) : ∀ n, (lstS S n).length = n
  | 0 => rfl
  | n + 1 => by simp [lstS, lstS_len S n]
theorem lstS_mem (S : Nat → ByteArray) (t : ByteArray) : ∀ n, t ∈ lstS S n ↔ ∃ j, j < n ∧ S j = t
  | 0 => by simp [lstS]
  | n + 1 => by
    simp only [lstS, List.mem_append, lstS_mem S t n, List.mem_singleton]
    constructor
    · rintro (⟨j, hj, e⟩ | e)
      · exact ⟨j, by omega, e⟩
      · exact ⟨n, by omega, e.symm⟩
    · rintro ⟨j, hj, e⟩
      by_cases h : j < n
      · exact .inl ⟨j, h, e⟩
      · obtain rfl : j = n := by omega
        exact .inr e.symm
/-- The texts of a list by index. -/
def atS (l : List ByteArray) (j : Nat) : ByteArray := l.getD j ⟨#[]⟩
theorem lstS_take (l : List ByteArray) : ∀ n, n ≤ l.length → lstS (atS l) n = l.take n
  | 0, _ => by simp [lstS]
  | n + 1, h => by
    have hn : n < l.length := by omega
    rw [lstS, lstS_take l n (by omega), List.take_add_one]
    simp [atS, hn]
theorem lstS_all (l : List ByteArray) : lstS (atS l) l.length = l := by rw [lstS_take l _ (Nat.le_refl _), List.take_length]
theorem own_txs {w : World} {base n : Nat} {v : Value} {l : List ByteArray} (h : w.ownsRow base 9 1 v n (cellsS l)) : ∃ a cap, v = .slice a n cap ∧ Txs w a n (atS l) ∧ l.length = n ∧ n ≤ cap := by
  obtain ⟨h1, h2⟩ := h
  have hl : l.length = n := by simpa [cellsS] using h1
  rcases h2 with ⟨rfl, rfl⟩ | ⟨g, cap, cur, rfl, _, hg, hle, hm, hsz, ht⟩
  · exact ⟨none, 0, rfl, fun h => by omega, hl, Nat.le_refl _⟩
  · refine ⟨some ⟨g, 0, none⟩, cap, rfl, fun _ => ⟨g, 0, rfl, fun j hj => ?_⟩, hl, hle⟩
    have hj1 : j < l.length := by omega
    have hj2 : cur.toList[j]? = some (.string l[j]) := by
      have : (cur.toList.take (n * 1))[j]? = some (.string l[j]) := by rw [ht]; simp [cellsS, hj1]
      rw [List.getElem?_take] at this
      split at this
      · exact this
      · cases this
    simp at hj2
    simp [World.cell?, hg, hj2, hj1, atS]
/-- One text more behind a row that the call owns. -/
theorem push_str {w : World} {base n : Nat} {v : Value} {l : List ByteArray} (h : w.ownsRow base 9 1 v n (cellsS l)) (hb : base ≤ w.heap.size) (hn : n ≤ 2097152) (s : ByteArray) :
    ∃ v' w', (Builtin.append_ #[28, 28] 28 #[v, .slice (some ⟨w.heap.size, 0, none⟩) 1 1]).run Try.prog (w.alloc (.cells #[.string s] 9)) = .ok v' w' ∧ w'.ownsRow base 9 1 v' (n + 1) (cellsS (l ++ [s])) ∧ Below base w w' := by
  obtain ⟨i0, hi, hz0, hz1, hz2⟩ := info_parts infoS
  obtain ⟨v', w', hrun, hown', hgrow, _⟩ := run_append_own (P := Try.prog) (w := w.alloc (.cells #[.string s] 9)) base 28 28 9 i0 (.string ⟨#[]⟩) 1 16 Try.underlying28 hi hz0 hz1 hz2 rfl (by decide) v _ _ (h.alloc _) ⟨w.heap.size, 0, none⟩ 1 1 [.string s] rfl
    (cell_one_new w (.string s) 9) (by simp [Value.oneCell']) (by unfold maxLen; omega) (by omega) (by simp; omega)
  refine ⟨v', w', hrun, ?_, ((Below.refl base w).alloc hb _).grown hgrow (by simp; omega) fun k e => (h.lt k e).1⟩
  have e : cellsS (l ++ [s]) = cellsS l ++ [.string s] := by simp [cellsS]
  rw [e]
  exact hown'
end Go.Proofs.Ytinnhaojmnmliaa
