/-
  The walk of the law VintBack, at every two slices of bytes that together are far below 2^47, every number and every int64.
-/
import Derived.Test.YtlpigoakpdpkfaaConv
namespace Go.Proofs.Ytlpigoakpdpkfaa
open Go.RowKit

/-- 'append' of a slice of bytes (nil too) onto a row that the call owns. -/
theorem append_in {w : World} {base L m c : Nat} {v : Value} {l ys : List Int} {a : Option Addr} (hown : w.ownsRow base 5 1 v L (cellsOf l)) (h : IsBytes w a m c ys) (hb : base ≤ w.heap.size) (hbd : L + m ≤ 140737488355328) :
    ∃ v' w', (Builtin.append_ #[22, 22] 22 #[v, .slice a m c]).run Try.prog w = .ok v' w' ∧ w'.ownsRow base 5 1 v' (L + m) (cellsOf (l ++ ys)) ∧ w.grownBy w' v.ownBlock := by
  obtain ⟨i0, hi, hz0, hz1, hz2⟩ := info_parts info5
  obtain ⟨hl, hmc, hmax, hnil, _, hc⟩ := h
  cases a with
  | none =>
    obtain rfl := hnil rfl
    obtain rfl : m = 0 := by omega
    have : ys = [] := List.eq_nil_of_length_eq_zero hl
    subst this
    refine ⟨v, w, run_append_owned_none (P := Try.prog) w base 22 22 5 i0 1 Try.underlying22 hi v L (cellsOf l) hown, by simpa using hown, World.grownBy.refl _ _⟩
  | some x =>
    have hcell : ∀ j u, (cellsOf ys)[j]? = some u → w.cell? (x.add j) = some u := by
      intro j u hj
      have hjm : j < m := by
        have := (List.getElem?_eq_some_iff.1 hj).1
        rw [cellsOf_length] at this
        omega
      obtain ⟨b, off, e, hcc⟩ := hc (by omega)
      cases e
      rw [addr_add, hcc j hjm]
      have hj' : j < ys.length := by omega
      simp [cellsOf, hj'] at hj
      simp [hj', hj]
    obtain ⟨v', w', r, o, g, _⟩ := run_append_own (P := Try.prog) w base 22 22 5 i0 (.int .u8 0) 1 1 Try.underlying22 hi hz0 hz1 hz2 rfl (by omega) v L (cellsOf l) hown x m c (cellsOf ys) (by rw [cellsOf_length]; omega) hcell (ints_oneCell .u8 ys) (by unfold maxLen; omega) (by omega) hb
    rw [← cellsOf_append] at o
    exact ⟨v', w', r, o, g⟩
/-- An append in a walk, by its run. -/
theorem wpList_append_run {P : Program} {w w' : World} {ops : Array Oper} {rest : List Oper} {o : Oper} {a : Act} {Q : Exit → Act → World → Prop} (hg : o.guard = none) (s x : Operand) (t : TypeId)
    (hop : o.op = Op.call { callee := Callee.builtin Builtin.append, args := #[s, x], argTypes := #[t, t] }) (v y v' : Value) (hs : a.eval s = v) (hx : a.eval x = y)
    (hrun : (Builtin.append_ #[t, t] o.type #[v, y]).run P w = .ok v' w') (hK : wpList P ops Q rest (a.put o.dst v') w') : wpList P ops Q (o :: rest) a w := by
  refine wpList_plain hg fun K hK' => ?_
  unfold Oper.wp
  simp [execOp, hop, resolve, invoke, builtin, hs, hx, hrun, Result.andThen]
  exact hK' _ _ hK
theorem IsBytes.later {w w' : World} {a : Option Addr} {len cap : Nat} {zs : List Int} (h : IsBytes w a len cap zs) (hb : Below w.heap.size w w') : IsBytes w' a len cap zs := by
  obtain ⟨h1, h2, h3, h4, h5, h6⟩ := h
  refine ⟨h1, h2, h3, h4, h5, fun h0 => ?_⟩
  obtain ⟨b, off, e, hc⟩ := h6 h0
  refine ⟨b, off, e, fun j hj => ?_⟩
  have hcj := hc j hj
  rw [hb.cell (p := ⟨b, off + j, none⟩) (World.block_lt_of_cell? w _ hcj), hcj]
/-- What is got of what was put. -/
theorem getZ_put (zs : List Int) (n : Nat) (r : List Int) (h : n < 18446744073709551616) : getZ (zs ++ (enc 10 n ++ r)) (zs.length : Int) = ((n : Int), ((zs.length + sz 10 n : Nat) : Int), 0) := by
  unfold getZ
  rw [if_neg (by simp; omega), Int.toNat_natCast, List.drop_left, dec_put n r h]
  simp

set_option maxHeartbeats 2000000 in
theorem back_walk (a0 : Option Addr) (len0 cap0 : Nat) (zs : List Int) (n : Nat) (i : Int) (a3 : Option Addr) (len3 cap3 : Nat) (ys : List Int) (w : World) (h0 : IsBytes w a0 len0 cap0 zs) (h3 : IsBytes w a3 len3 cap3 ys)
    (hn : n < 18446744073709551616) (hi0 : -9223372036854775808 ≤ i) (hi1 : i < 9223372036854775808) (hr0 : cap0 ≤ 1048576) (hr3 : cap3 ≤ 1048576) :
    Calls Try.prog 5 #[.slice a0 len0 cap0, .int .u64 n, .int .i64 i, .slice a3 len3 cap3] w fun e w' => e = .returned (.bool true) ∧ Below w.heap.size w w' := by
  have hl0 := h0.1
  have hc0 := h0.2.1
  have hl3 := h3.1
  have hc3 := h3.2.1
  have ht := turn_bd i hi0 hi1
  obtain ⟨t, ht'⟩ := Int.eq_ofNat_of_zero_le ht.1
  have hb0 := mem_bd h0.2.2.2.2.1
  have hb3 := mem_bd h3.2.2.2.2.1
  have hbt := back_turn i
  have s1 := sz_le 10 n
  have s2 := sz_le 10 t
  have cTurn := turn_any i
  have cSize := size_any (n : Int)
  rw [ht'] at hbt cTurn
  rw [Int.toNat_natCast] at cSize
  have c1 := put_any a0 len0 cap0 zs n w h0 (by omega) hn
  have htn : t < 18446744073709551616 := by omega
  have HT : Hid (turnZ i = (t : Int)) := ht'
  have HBT : Hid (backZ (t : Int) = i) := hbt
  have CT : Hid (∀ w, -9223372036854775808 ≤ i → i < 9223372036854775808 → Calls Try.prog 14 _ w _) := cTurn
  have cBack : ∀ w, Calls Try.prog 16 #[.int .u64 (t : Int)] w fun e w' => e = .returned (.int .i64 i) ∧ w' = w := by
    intro w
    have := back_any (t : Int) w (by omega) (by omega)
    rwa [hbt] at this
  have CB : Hid (∀ w, Calls Try.prog 16 _ w _) := cBack
  have CS : Hid (∀ w, 0 ≤ (n : Int) → (n : Int) < 18446744073709551616 → Calls Try.prog 12 _ w _) := cSize
  have C1 : Hid (Calls Try.prog 8 _ w _) := c1
  have H3 : Hid (IsBytes w a3 len3 cap3 ys) := h3
  have HB : Hid ((∀ c ∈ zs, 0 ≤ c ∧ c ≤ 255) ∧ ∀ c ∈ ys, 0 ≤ c ∧ c ≤ 255) := ⟨hb0, hb3⟩
  clear cBack
  clear ht ht' hbt cTurn cSize c1 h3 h0 hb0 hb3
  go_enter Try.func5, Try.ntmps5
  go_wp2_with fail
  refine C1.out.mono ?_
  rintro e w1 ⟨rfl, hown1, hB1⟩
  obtain ⟨x1, k1, e1, h1⟩ := isBytes_own hown1 (by intro c hc; rcases List.mem_append.1 hc with hc | hc; exact HB.out.1 c hc; exact enc_bd 10 n c hc)
  cases e1
  have c2 := putInt_any _ _ _ _ i w1 h1 (by omega) hi0 hi1
  rw [HT.out, Int.toNat_natCast] at c2
  have C2 : Hid (Calls Try.prog 10 _ w1 _) := c2
  clear c2 h1
  go_wp2_with fail
  refine C2.out.mono ?_
  rintro e w2 ⟨rfl, hown2, hB2⟩
  have hz1 : w.heap.size < w1.heap.size := (hown1.lt w.heap.size rfl).2
  have hB12 : Below w.heap.size w w2 := hB1.trans (hB2.mono (by omega))
  obtain ⟨v3, w3, hrun, hown3, hg3⟩ := append_in hown2 (H3.out.later hB12) hB2.size (by omega)
  have hB3 : Below w.heap.size w w3 := hB12.grown hg3 hB12.size (by intro k hk; simp [Value.ownBlock] at hk; omega)
  obtain ⟨x3, k3, rfl, hI3⟩ := isBytes_own hown3 (by
    intro c hc
    rcases List.mem_append.1 hc with hc | hc
    · rcases List.mem_append.1 hc with hc | hc
      · rcases List.mem_append.1 hc with hc | hc
        · exact HB.out.1 c hc
        · exact enc_bd 10 n c hc
      · exact enc_bd 10 t c hc
    · exact HB.out.2 c hc)
  have c3 := get_any _ _ _ _ (len0 : Int) w3 hI3
  have c4 := getInt_any _ _ _ _ ((len0 + sz 10 n : Nat) : Int) w3 hI3
  have g3 : getZ (zs ++ enc 10 n ++ enc 10 t ++ ys) (len0 : Int) = ((n : Int), ((len0 + sz 10 n : Nat) : Int), 0) := by
    have := getZ_put zs n (enc 10 t ++ ys) hn
    rw [hl0] at this
    simpa using this
  have g4 : getZ (zs ++ enc 10 n ++ enc 10 t ++ ys) ((len0 + sz 10 n : Nat) : Int) = ((t : Int), ((len0 + sz 10 n + sz 10 t : Nat) : Int), 0) := by
    have := getZ_put (zs ++ enc 10 n) t ys htn
    rw [List.length_append, enc_length, hl0] at this
    simpa using this
  rw [g3] at c3
  rw [g4] at c4
  dsimp only at c3 c4
  rw [HBT.out] at c4
  have C3 : Hid (Calls Try.prog 19 _ w3 _) := c3
  have C4 : Hid (Calls Try.prog 21 _ w3 _) := c4
  clear c3 c4 g3 g4 hown1 hown2 hown3 hI3 hg3 hB1 hB2 hB12 hz1
  have HR : Hid (_ = _) := hrun
  clear hrun
  go_wp2_with (first
    | (at_builtin; refine wpList_append_run rfl (.tmp 20) (.tmp 21) 22 rfl _ _ _ rfl rfl HR.out ?_)
    | (go_at_call 19; refine C3.out.mono ?_; rintro e w4 ⟨rfl, hw4⟩; replace hw4 := hw4.symm; subst hw4)
    | (go_at_call 21; refine C4.out.mono ?_; rintro e w4 ⟨rfl, hw4⟩; replace hw4 := hw4.symm; subst hw4)
    | (go_at_call 12; refine (CS.out _ (by omega) (by omega)).mono ?_; rintro e w4 ⟨rfl, hw4⟩; replace hw4 := hw4.symm; subst hw4)
    | (go_at_call 14; refine (CT.out _ (by omega) (by omega)).mono ?_; rintro e w4 ⟨rfl, hw4⟩; replace hw4 := hw4.symm; subst hw4)
    | (go_at_call 16; refine (CB.out _).mono ?_; rintro e w4 ⟨rfl, hw4⟩; replace hw4 := hw4.symm; subst hw4)
    | (go_at_call 18; refine (awake_any _).mono ?_; rintro e w4 ⟨rfl, hw4⟩; replace hw4 := hw4.symm; subst hw4))
  go_ret
  exact ⟨rfl, hB3⟩
end Go.Proofs.Ytlpigoakpdpkfaa
