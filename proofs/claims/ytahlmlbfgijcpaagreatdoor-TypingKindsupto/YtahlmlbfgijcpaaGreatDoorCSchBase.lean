/-
  Schemas and their fields: rows of two cells an element, the first a name; what a schema has to be; of the document's words alone.
  Two cells in a block of their own (a schema or a field in a variable); what stays in memory, by the block's type.
  What a field has to be (schema.right): a name and a kind that null fits.
  Names that were seen are in a map (schema.twice): is one of them there again?
-/
import Derived.Test.YtahlmlbfgijcpaaGreatDoorCValMake
import Derived.Test.YtahlmlbfgijcpaaGreatDoorCWord
import Derived.Test.YtahlmlbfgijcpaaGreatDoorCText
import Derived.Deep.RegionHeld3
import Derived.Maps.OwnSet
namespace Go.Proofs.YtahlmlbfgijcpaaGreatDoor
open Go.RowKit

abbrev fldV (s : ByteArray) (k : Int) : Value := .agg #[.string s, .int .i64 k]
abbrev fldO (s : ByteArray) (k : Int) : Obj := .cells #[.string s, .int .i64 k] 74
abbrev schV (s : ByteArray) (v : Value) : Value := .agg #[.string s, v]
abbrev schO (s : ByteArray) (v : Value) : Obj := .cells #[.string s, v] 58

/-- A row of two cells an element, the first a name. -/
def Row2 (w : World) (a : Option Addr) (n : Nat) (Nm : Nat → ByteArray) (V : Nat → Value) : Prop :=
  0 < n → ∃ b off, a = some ⟨b, off, none⟩ ∧ ∀ j, j < n → (w.cell? ⟨b, off + j * 2, none⟩ = some (.string (Nm j)) ∧ w.cell? ⟨b, off + j * 2 + 1, none⟩ = some (V j)) ∧ (Nm j).size ≤ maxLen
theorem Row2.later {w w' : World} {a : Option Addr} {n : Nat} {Nm : Nat → ByteArray} {V : Nat → Value} (h : Row2 w a n Nm V) (hB : Below w.heap.size w w') : Row2 w' a n Nm V := by
  intro h0
  obtain ⟨b, off, e, hc⟩ := h h0
  exact ⟨b, off, e, fun j hj => ⟨⟨cell_later (hc j hj).1.1 hB, cell_later (hc j hj).1.2 hB⟩, (hc j hj).2⟩⟩
abbrev Flds (w : World) (a : Option Addr) (n : Nat) (Nm : Nat → ByteArray) (K : Nat → Int) : Prop := Row2 w a n Nm fun j => .int .i64 (K j)
theorem cell_new (w : World) (o : Obj) (p : Addr) (v : Value) (h : w.cell? p = some v) : (w.alloc o).cell? p = some v := cell_later h ((Below.refl _ _).alloc (Nat.le_refl _) _)

theorem bt {w w1 w2 : World} (h : Below w.heap.size w w1) (g : Below w1.heap.size w1 w2) : Below w.heap.size w w2 := h.trans (g.mono h.size)
/-- The first of some names that is this one, or none is. -/
theorem first_or (Nm : Nat → ByteArray) (s : ByteArray) : ∀ n, (∃ i, i < n ∧ Nm i = s ∧ ∀ j, j < i → ¬ Nm j = s) ∨ ∀ j, j < n → ¬ Nm j = s
  | 0 => .inr fun j hj => by omega
  | n + 1 => by
    rcases first_or Nm s n with ⟨i, h1, h2⟩ | h
    · exact .inl ⟨i, by omega, h2⟩
    · by_cases e : Nm n = s
      · exact .inl ⟨n, by omega, e, h⟩
      · exact .inr fun j hj => if hn : j = n then hn ▸ e else h j (by omega)

/-- A kind that a field may have. -/
def kindB (k : Int) : Bool := decide (1 ≤ k) && decide (k ≤ 3)
def rightF (s : ByteArray) (k : Int) : Bool := nameB s && kindB k
/-- Is the name among the first? -/
def seenB (Nm : Nat → ByteArray) (s : ByteArray) : Nat → Bool
  | 0 => false
  | k + 1 => seenB Nm s k || decide (Nm k = s)
/-- Is one of the first names there again? -/
def dupB (Nm : Nat → ByteArray) : Nat → Bool
  | 0 => false
  | k + 1 => dupB Nm k || seenB Nm (Nm k) k
/-- Are the first fields right? -/
def allR (Nm : Nat → ByteArray) (K : Nat → Int) : Nat → Bool
  | 0 => true
  | k + 1 => allR Nm K k && rightF (Nm k) (K k)
theorem seenB_iff (Nm : Nat → ByteArray) (s : ByteArray) : ∀ k, seenB Nm s k = true ↔ ∃ i, i < k ∧ Nm i = s
  | 0 => by simp [seenB]
  | k + 1 => by
    simp only [seenB, Bool.or_eq_true, decide_eq_true_eq, seenB_iff Nm s k]
    constructor
    · rintro (⟨i, h1, h2⟩ | h)
      · exact ⟨i, by omega, h2⟩
      · exact ⟨k, by omega, h⟩
    · rintro ⟨i, h1, h2⟩
      by_cases e : i = k
      · exact .inr (e ▸ h2)
      · exact .inl ⟨i, by omega, h2⟩
theorem dupB_not (Nm : Nat → ByteArray) : ∀ n, dupB Nm n = false → ∀ i j, i < j → j < n → ¬ Nm i = Nm j
  | 0, _, i, j, _, h => by omega
  | n + 1, h, i, j, hi, hj => by
    simp only [dupB, Bool.or_eq_false_iff] at h
    by_cases e : j = n
    · subst e
      intro he
      have := (seenB_iff Nm (Nm j) j).2 ⟨i, hi, he⟩
      rw [h.2] at this
      cases this
    · exact dupB_not Nm n h.1 i j hi (by omega)
theorem allR_at (Nm : Nat → ByteArray) (K : Nat → Int) : ∀ n, allR Nm K n = true → ∀ j, j < n → rightF (Nm j) (K j) = true
  | 0, _, j, h => by omega
  | n + 1, h, j, hj => by
    simp only [allR, Bool.and_eq_true] at h
    by_cases e : j = n
    · exact e ▸ h.2
    · exact allR_at Nm K n h.1 j (by omega)
theorem allR_not (Nm : Nat → ByteArray) (K : Nat → Int) (n j : Nat) (hj : j < n) (h : rightF (Nm j) (K j) = false) : allR Nm K n = false := by
  cases e : allR Nm K n with
  | false => rfl
  | true => have := allR_at Nm K n e j hj; rw [h] at this; cases this
/-- Check's answer. -/
def chkZ (S : ByteArray) (n : Nat) (Nm : Nat → ByteArray) (K : Nat → Int) : Int :=
  if 16 < n then 2 else if nameB S = false then 1 else if dupB Nm n = true then 1 else if allR Nm K n = true then 0 else 1
theorem chkZ_ok {S : ByteArray} {n : Nat} {Nm : Nat → ByteArray} {K : Nat → Int} (h : chkZ S n Nm K = 0) : n ≤ 16 ∧ nameB S = true ∧ dupB Nm n = false ∧ allR Nm K n = true := by
  unfold chkZ at h
  split at h
  · omega
  · split at h
    · omega
    · split at h
      · omega
      · split at h
        · rename_i h1 h2 h3 h4
          exact ⟨by omega, by simpa using h2, by simpa using h3, h4⟩
        · omega
end Go.Proofs.YtahlmlbfgijcpaaGreatDoor
namespace Go.Proofs.YtahlmlbfgijcpaaGreatDoor
open Go.RowKit

/-- Whatever lies in memory in blocks of a type lies there behind the call. -/
def Keep (t : TypeId) (w w' : World) : Prop := ∀ (k : Nat) (c : Array Value) (f : Nat × Nat), w.heap[k]? = some (.cells c t f) → w'.heap[k]? = some (.cells c t f)
theorem Keep.trans {t : TypeId} {a b c : World} (h : Keep t a b) (g : Keep t b c) : Keep t a c := fun k x f e => g k x f (h k x f e)
theorem keep_below {t : TypeId} {w w' : World} (b : Below w.heap.size w w') : Keep t w w' := fun k _ _ e => (b.block k (Array.getElem?_eq_some_iff.1 e).1).trans e
/-- Two cells in a block of their own. -/
def Box2 (t : TypeId) (w : World) (b : Nat) (x y : Value) : Prop := w.heap[b]? = some (.cells #[x, y] t)
theorem Box2.keep {t : TypeId} {w w' : World} {b : Nat} {x y : Value} (h : Box2 t w b x y) (hk : Keep t w w') : Box2 t w' b x y := hk _ _ _ h
theorem Box2.new (t : TypeId) (w : World) (x y : Value) : Box2 t (w.alloc (.cells #[x, y] t)) w.heap.size x y := heap_alloc_new w _
theorem Box2.cells {t : TypeId} {w : World} {b : Nat} {x y : Value} (h : Box2 t w b x y) : w.cell? ⟨b, 0, none⟩ = some x ∧ w.cell? ⟨b, 1, none⟩ = some y := by
  unfold Box2 at h
  refine ⟨?_, ?_⟩ <;> simp [World.cell?, h]
theorem Box2.frozen {t : TypeId} {w : World} {b : Nat} {x y : Value} (h : Box2 t w b x y) (i : Nat) : w.frozen? ⟨b, i, none⟩ = false := by
  unfold Box2 at h
  simp [World.frozen?, h]
theorem Box2.lt {t : TypeId} {w : World} {b : Nat} {x y : Value} (h : Box2 t w b x y) : b < w.heap.size := (Array.getElem?_eq_some_iff.1 h).1
theorem Box2.set1 {t : TypeId} {w : World} {b : Nat} {x y : Value} (h : Box2 t w b x y) (z : Value) : Box2 t (w.setCell ⟨b, 1, none⟩ z) b x z := by
  unfold Box2 at h ⊢
  simp [World.setCell, Array.getElem?_modify, h]
theorem Box2.set0 {t : TypeId} {w : World} {b : Nat} {x y : Value} (h : Box2 t w b x y) (z : Value) : Box2 t (w.setCell ⟨b, 0, none⟩ z) b z y := by
  unfold Box2 at h ⊢
  simp [World.setCell, Array.getElem?_modify, h]
theorem Box2.other {t : TypeId} {w : World} {b : Nat} {x y : Value} (h : Box2 t w b x y) (a : Addr) (z : Value) (hne : b ≠ a.block) : Box2 t (w.setCell a z) b x y := by
  unfold Box2 at h ⊢
  rw [Below.heap_setCell _ _ _ _ hne, h]
end Go.Proofs.YtahlmlbfgijcpaaGreatDoor
namespace Go.Proofs.YtahlmlbfgijcpaaGreatDoor
open Go.RowKit

theorem null_below (w : World) : Calls Tryz.prog 66 #[] w fun e w' => e = .returned (valV 0 0 ⟨#[]⟩) ∧ Below w.heap.size w w' :=
  (null_any w).mono fun e w' h => ⟨h.1, by rw [h.2]; exact (Below.refl _ _).alloc (Nat.le_refl _) _⟩
set_option maxHeartbeats 1000000 in
theorem fits_null (k : Int) (w : World) : Calls Tryz.prog 65 #[valV 0 0 ⟨#[]⟩, .int .i64 k] w fun e w' => e = .returned (.bool (kindB k)) ∧ Below w.heap.size w w' := by
  have hB0 : Below w.heap.size w (w.alloc (valO 0 0 ⟨#[]⟩)) := (Below.refl _ _).alloc (Nat.le_refl _) _
  have C : Hid (Calls Tryz.prog 51 _ _ _) := right_null0 (w.alloc (valO 0 0 ⟨#[]⟩))
  obtain ⟨f, hf⟩ : ∃ f, f = kindB k := ⟨_, rfl⟩
  rw [← hf]
  have HF : Hid (f = kindB k) := hf
  have HX : Hid ((w.alloc (valO 0 0 ⟨#[]⟩)).cell? ⟨w.heap.size, 0, none⟩ = some (.int .i64 0)) := by
    show (w.alloc (valO 0 0 ⟨#[]⟩)).cell? ⟨w.heap.size, 0, none⟩ = some (.int .i64 0)
    simp
  clear hf
  by_cases h1 : 1 ≤ k
  · by_cases h3 : k ≤ 3
    · go_enter Tryz.func65, Tryz.ntmps65
      go_wp2_with (first | (go_at_call 51; refine C.out.mono ?_; rintro e w1 ⟨rfl, hB1⟩; have f0 := cell_later HX.out hB1))
      go_ret
      exact ⟨ret_bool (by rw [HF.out]; simp [kindB, h1, h3]), bt hB0 hB1⟩
    · go_enter Tryz.func65, Tryz.ntmps65
      go_wp2_with (first | (go_at_call 51; refine C.out.mono ?_; rintro e w1 ⟨rfl, hB1⟩; have f0 := cell_later HX.out hB1))
      go_ret
      exact ⟨ret_bool (by rw [HF.out]; simp [kindB, h3]), bt hB0 hB1⟩
  · go_enter Tryz.func65, Tryz.ntmps65
    go_wp2_with (first | (go_at_call 51; refine C.out.mono ?_; rintro e w1 ⟨rfl, hB1⟩; have f0 := cell_later HX.out hB1))
    go_ret
    exact ⟨ret_bool (by rw [HF.out, kindB, decide_eq_false (by omega)]; rfl), bt hB0 hB1⟩

set_option maxRecDepth 100000 in
set_option maxHeartbeats 4000000 in
theorem rightF_yes (s : ByteArray) (k : Int) (w : World) (hs : nameB s = true) : Calls Tryz.prog 47 #[fldV s k] w fun e w' => e = .returned (.bool (kindB k)) ∧ Below w.heap.size w w' := by
  have C2 : Hid (∀ w, Calls Tryz.prog 45 #[.string s] w fun e w' => e = .returned (.bool true) ∧ Below w.heap.size w w') := fun w => by have := name_any s w; rwa [hs] at this
  have C7 : Hid (∀ w, Calls Tryz.prog 65 #[valV 0 0 ⟨#[]⟩, .int .i64 k] w fun e w' => e = .returned (.bool (kindB k)) ∧ Below w.heap.size w w') := fits_null k
  clear hs
  go_enter Tryz.func47, Tryz.ntmps47
  go_wp2_with fail
  have hW0 : Below w.heap.size w (w.alloc (fldO s k)) := (Below.refl _ w).alloc (Nat.le_refl _) _
  have HC : Hid ((w.alloc (fldO s k)).cell? ⟨w.heap.size, 0, none⟩ = some (.string s) ∧ (w.alloc (fldO s k)).cell? ⟨w.heap.size, 1, none⟩ = some (.int .i64 k)) := ⟨by simp, by simp⟩
  generalize w.alloc (fldO s k) = W at hW0 HC ⊢
  refine wp_region_noPanic ?_
  refine wp_region_held_drew (S := fun w' => Below W.heap.size W w') (by kernel_rfl) ((Below.refl _ _).drew) (fun hHeld => ?_)
  have hT : Below W.heap.size W W.drew := hHeld
  obtain ⟨d, hd⟩ : ∃ d, d = W.drew := ⟨_, rfl⟩
  rw [← hd] at hHeld hT ⊢
  clear hd
  refine wpAnyH_take (i := 0) (oi := ⟨some 3, Op.fieldAddr 74 (Operand.tmp 1) 0, 0, _, _, _⟩) (v := ?v0y) rfl (by kernel_rfl) (by kernel_rfl) (by kernel_rfl) (fun _ _ _ h => h) (Or.inl ⟨by rfl, ?hy0y⟩) hHeld ?rest0y
  case hy0y => intro w9 hSw; go_simp; (try with_reducible rfl)
  try simp only [Act.put, List.setIfInBounds_toArray, List.set_cons_zero, List.set_cons_succ]
  refine wpAnyH_take (i := 1) (oi := ⟨some 4, Op.load 9 (Operand.tmp 3), 9, _, _, _⟩) (v := ?v1y) rfl (by kernel_rfl) (by kernel_rfl) (by kernel_rfl) (fun _ _ _ h => h) (Or.inl ⟨by rfl, ?hy1y⟩) hHeld ?rest1y
  case hy1y => intro w9 hSw; have cc := cell_later HC.out.1 hSw; go_simp; (try with_reducible rfl)
  try simp only [Act.put, List.setIfInBounds_toArray, List.set_cons_zero, List.set_cons_succ]
  refine wpAnyH_ready (rs := [2]) (by kernel_rfl) (by simp) ?_
  refine AllReadyH.cons (o := ⟨some 5, Op.call { callee := Callee.value (Operand.func 45), args := #[Operand.tmp 4], argTypes := #[9] }, 4, _, _, _⟩) rfl (fun K hK => ?_) AllReadyH.nil
  go_simp
  refine (C2.out _).mono ?_
  rintro e x2 ⟨rfl, hN2⟩
  go_wp2_with fail
  have hT2 : Below W.heap.size W x2 := hT.trans (hN2.mono hT.size)
  refine hK.out _ _ (hHeld.trans (hN2.mono hHeld.size)) (fun _ => held_up (S' := fun w' => Below x2.heap.size x2 w') (fun w' h' => (hHeld.trans (hN2.mono hHeld.size)).trans (h'.mono (Nat.le_trans hHeld.size hN2.size))) _ _ _ _ ?_)
  clear hK K hHeld hT
  have hT : Below W.heap.size W x2 := hT2
  have hHeld : Below x2.heap.size x2 x2 := Below.refl _ _
  clear hT2 hN2
  try simp only [Act.put, List.setIfInBounds_toArray, List.set_cons_zero, List.set_cons_succ]
  refine wpAnyH_take (i := 3) (oi := ⟨some 6, Op.move (Operand.tmp 5), 4, _, _, _⟩) (v := ?v3y) rfl (by kernel_rfl) (by kernel_rfl) (by kernel_rfl) (fun _ _ _ h => h) (Or.inl ⟨by rfl, ?hy3y⟩) hHeld ?rest3y
  case hy3y => intro w9 hSw; go_simp; (try with_reducible rfl)
  try simp only [Act.put, List.setIfInBounds_toArray, List.set_cons_zero, List.set_cons_succ]
  refine wpAnyH_take (i := 5) (oi := ⟨some 8, Op.fieldAddr 74 (Operand.tmp 1) 1, 0, _, _, _⟩) (v := ?v5y) rfl (by kernel_rfl) (by kernel_rfl) (by kernel_rfl) (fun _ _ _ h => h) (Or.inl ⟨by rfl, ?hy5y⟩) hHeld ?rest5y
  case hy5y => intro w9 hSw; go_simp; (try with_reducible rfl)
  try simp only [Act.put, List.setIfInBounds_toArray, List.set_cons_zero, List.set_cons_succ]
  refine wpAnyH_take (i := 6) (oi := ⟨some 9, Op.load 3 (Operand.tmp 8), 3, _, _, _⟩) (v := ?v6y) rfl (by kernel_rfl) (by kernel_rfl) (by kernel_rfl) (fun _ _ _ h => h) (Or.inl ⟨by rfl, ?hy6y⟩) hHeld ?rest6y
  case hy6y => intro w9 hSw; have cc := cell_later HC.out.2 (bt hT hSw); go_simp; (try with_reducible rfl)
  try simp only [Act.put, List.setIfInBounds_toArray, List.set_cons_zero, List.set_cons_succ]
  refine wpAnyH_ready (rs := [4]) (by kernel_rfl) (by simp) ?_
  refine AllReadyH.cons (o := ⟨some 7, Op.call { callee := Callee.value (Operand.func 66), args := #[], argTypes := #[] }, 25, _, _, _⟩) rfl (fun K hK => ?_) AllReadyH.nil
  go_simp
  refine (null_below _).mono ?_
  rintro e x4 ⟨rfl, hN4⟩
  go_wp2_with fail
  have hT4 : Below W.heap.size W x4 := hT.trans (hN4.mono hT.size)
  refine hK.out _ _ (hHeld.trans (hN4.mono hHeld.size)) (fun _ => held_up (S' := fun w' => Below x4.heap.size x4 w') (fun w' h' => (hHeld.trans (hN4.mono hHeld.size)).trans (h'.mono (Nat.le_trans hHeld.size hN4.size))) _ _ _ _ ?_)
  clear hK K hHeld hT
  have hT : Below W.heap.size W x4 := hT4
  have hHeld : Below x4.heap.size x4 x4 := Below.refl _ _
  clear hT4 hN4
  try simp only [Act.put, List.setIfInBounds_toArray, List.set_cons_zero, List.set_cons_succ]
  refine wpAnyH_ready (rs := [7]) (by kernel_rfl) (by simp) ?_
  refine AllReadyH.cons (o := ⟨some 10, Op.call { callee := Callee.value (Operand.func 65), args := #[Operand.tmp 7, Operand.tmp 9], argTypes := #[25, 3] }, 4, _, _, _⟩) rfl (fun K hK => ?_) AllReadyH.nil
  go_simp
  refine (C7.out _).mono ?_
  rintro e x7 ⟨rfl, hN7⟩
  go_wp2_with fail
  have hT7 : Below W.heap.size W x7 := hT.trans (hN7.mono hT.size)
  refine hK.out _ _ (hHeld.trans (hN7.mono hHeld.size)) (fun _ => held_up (S' := fun w' => Below x7.heap.size x7 w') (fun w' h' => (hHeld.trans (hN7.mono hHeld.size)).trans (h'.mono (Nat.le_trans hHeld.size hN7.size))) _ _ _ _ ?_)
  clear hK K hHeld hT
  have hT : Below W.heap.size W x7 := hT7
  have hHeld : Below x7.heap.size x7 x7 := Below.refl _ _
  clear hT7 hN7
  try simp only [Act.put, List.setIfInBounds_toArray, List.set_cons_zero, List.set_cons_succ]
  refine wpAnyH_take (i := 8) (oi := ⟨some 11, Op.pick (Operand.tmp 6) (Operand.tmp 10) (Operand.const (Value.bool false)), 4, _, _, _⟩) (v := ?v8y) rfl (by kernel_rfl) (by kernel_rfl) (by kernel_rfl) (fun _ _ _ h => h) (Or.inl ⟨by rfl, ?hy8y⟩) hHeld ?rest8y
  case hy8y => intro w9 hSw; go_simp; (try with_reducible rfl)
  try simp only [Act.put, List.setIfInBounds_toArray, List.set_cons_zero, List.set_cons_succ]
  refine wpAnyH_take (i := 9) (oi := ⟨some 2, Op.assign (Operand.tmp 11), 4, _, _, _⟩) (v := ?v9y) rfl (by kernel_rfl) (by kernel_rfl) (by kernel_rfl) (fun _ _ _ h => h) (Or.inl ⟨by rfl, ?hy9y⟩) hHeld ?rest9y
  case hy9y => intro w9 hSw; go_simp; (try with_reducible rfl)
  try simp only [Act.put, List.setIfInBounds_toArray, List.set_cons_zero, List.set_cons_succ]
  refine wpAnyH_done (by kernel_rfl) ?_ _
  refine NoPanic.normal ?_
  go_wp2
  go_ret
  exact ⟨rfl, hW0.trans (hT.mono hW0.size)⟩
set_option maxRecDepth 100000 in
set_option maxHeartbeats 4000000 in
theorem rightF_not (s : ByteArray) (k : Int) (w : World) (hs : nameB s = false) : Calls Tryz.prog 47 #[fldV s k] w fun e w' => e = .returned (.bool false) ∧ Below w.heap.size w w' := by
  have C2 : Hid (∀ w, Calls Tryz.prog 45 #[.string s] w fun e w' => e = .returned (.bool false) ∧ Below w.heap.size w w') := fun w => by have := name_any s w; rwa [hs] at this
  clear hs
  go_enter Tryz.func47, Tryz.ntmps47
  go_wp2_with fail
  have hW0 : Below w.heap.size w (w.alloc (fldO s k)) := (Below.refl _ w).alloc (Nat.le_refl _) _
  have HC : Hid ((w.alloc (fldO s k)).cell? ⟨w.heap.size, 0, none⟩ = some (.string s) ∧ (w.alloc (fldO s k)).cell? ⟨w.heap.size, 1, none⟩ = some (.int .i64 k)) := ⟨by simp, by simp⟩
  generalize w.alloc (fldO s k) = W at hW0 HC ⊢
  refine wp_region_noPanic ?_
  refine wp_region_held_drew (S := fun w' => Below W.heap.size W w') (by kernel_rfl) ((Below.refl _ _).drew) (fun hHeld => ?_)
  have hT : Below W.heap.size W W.drew := hHeld
  obtain ⟨d, hd⟩ : ∃ d, d = W.drew := ⟨_, rfl⟩
  rw [← hd] at hHeld hT ⊢
  clear hd
  refine wpAnyH_take (i := 0) (oi := ⟨some 3, Op.fieldAddr 74 (Operand.tmp 1) 0, 0, _, _, _⟩) (v := ?v0n) rfl (by kernel_rfl) (by kernel_rfl) (by kernel_rfl) (fun _ _ _ h => h) (Or.inl ⟨by rfl, ?hy0n⟩) hHeld ?rest0n
  case hy0n => intro w9 hSw; go_simp; (try with_reducible rfl)
  try simp only [Act.put, List.setIfInBounds_toArray, List.set_cons_zero, List.set_cons_succ]
  refine wpAnyH_take (i := 1) (oi := ⟨some 4, Op.load 9 (Operand.tmp 3), 9, _, _, _⟩) (v := ?v1n) rfl (by kernel_rfl) (by kernel_rfl) (by kernel_rfl) (fun _ _ _ h => h) (Or.inl ⟨by rfl, ?hy1n⟩) hHeld ?rest1n
  case hy1n => intro w9 hSw; have cc := cell_later HC.out.1 hSw; go_simp; (try with_reducible rfl)
  try simp only [Act.put, List.setIfInBounds_toArray, List.set_cons_zero, List.set_cons_succ]
  refine wpAnyH_ready (rs := [2]) (by kernel_rfl) (by simp) ?_
  refine AllReadyH.cons (o := ⟨some 5, Op.call { callee := Callee.value (Operand.func 45), args := #[Operand.tmp 4], argTypes := #[9] }, 4, _, _, _⟩) rfl (fun K hK => ?_) AllReadyH.nil
  go_simp
  refine (C2.out _).mono ?_
  rintro e x2 ⟨rfl, hN2⟩
  go_wp2_with fail
  have hT2 : Below W.heap.size W x2 := hT.trans (hN2.mono hT.size)
  refine hK.out _ _ (hHeld.trans (hN2.mono hHeld.size)) (fun _ => held_up (S' := fun w' => Below x2.heap.size x2 w') (fun w' h' => (hHeld.trans (hN2.mono hHeld.size)).trans (h'.mono (Nat.le_trans hHeld.size hN2.size))) _ _ _ _ ?_)
  clear hK K hHeld hT
  have hT : Below W.heap.size W x2 := hT2
  have hHeld : Below x2.heap.size x2 x2 := Below.refl _ _
  clear hT2 hN2
  try simp only [Act.put, List.setIfInBounds_toArray, List.set_cons_zero, List.set_cons_succ]
  refine wpAnyH_take (i := 3) (oi := ⟨some 6, Op.move (Operand.tmp 5), 4, _, _, _⟩) (v := ?v3n) rfl (by kernel_rfl) (by kernel_rfl) (by kernel_rfl) (fun _ _ _ h => h) (Or.inl ⟨by rfl, ?hy3n⟩) hHeld ?rest3n
  case hy3n => intro w9 hSw; go_simp; (try with_reducible rfl)
  try simp only [Act.put, List.setIfInBounds_toArray, List.set_cons_zero, List.set_cons_succ]
  refine wpAnyH_take (i := 4) (oi := ⟨some 7, Op.call { callee := Callee.value (Operand.func 66), args := #[], argTypes := #[] }, 25, _, _, _⟩) (v := undef) rfl (by kernel_rfl) (by kernel_rfl) (by kernel_rfl) (fun _ _ _ h => h) (Or.inr ⟨by rfl, rfl⟩) hHeld ?rest4n
  try simp only [Act.put, List.setIfInBounds_toArray, List.set_cons_zero, List.set_cons_succ]
  refine wpAnyH_take (i := 5) (oi := ⟨some 8, Op.fieldAddr 74 (Operand.tmp 1) 1, 0, _, _, _⟩) (v := undef) rfl (by kernel_rfl) (by kernel_rfl) (by kernel_rfl) (fun _ _ _ h => h) (Or.inr ⟨by rfl, rfl⟩) hHeld ?rest5n
  try simp only [Act.put, List.setIfInBounds_toArray, List.set_cons_zero, List.set_cons_succ]
  refine wpAnyH_take (i := 6) (oi := ⟨some 9, Op.load 3 (Operand.tmp 8), 3, _, _, _⟩) (v := undef) rfl (by kernel_rfl) (by kernel_rfl) (by kernel_rfl) (fun _ _ _ h => h) (Or.inr ⟨by rfl, rfl⟩) hHeld ?rest6n
  try simp only [Act.put, List.setIfInBounds_toArray, List.set_cons_zero, List.set_cons_succ]
  refine wpAnyH_take (i := 7) (oi := ⟨some 10, Op.call { callee := Callee.value (Operand.func 65), args := #[Operand.tmp 7, Operand.tmp 9], argTypes := #[25, 3] }, 4, _, _, _⟩) (v := undef) rfl (by kernel_rfl) (by kernel_rfl) (by kernel_rfl) (fun _ _ _ h => h) (Or.inr ⟨by rfl, rfl⟩) hHeld ?rest7n
  try simp only [Act.put, List.setIfInBounds_toArray, List.set_cons_zero, List.set_cons_succ]
  refine wpAnyH_take (i := 8) (oi := ⟨some 11, Op.pick (Operand.tmp 6) (Operand.tmp 10) (Operand.const (Value.bool false)), 4, _, _, _⟩) (v := ?v8n) rfl (by kernel_rfl) (by kernel_rfl) (by kernel_rfl) (fun _ _ _ h => h) (Or.inl ⟨by rfl, ?hy8n⟩) hHeld ?rest8n
  case hy8n => intro w9 hSw; go_simp; (try with_reducible rfl)
  try simp only [Act.put, List.setIfInBounds_toArray, List.set_cons_zero, List.set_cons_succ]
  refine wpAnyH_take (i := 9) (oi := ⟨some 2, Op.assign (Operand.tmp 11), 4, _, _, _⟩) (v := ?v9n) rfl (by kernel_rfl) (by kernel_rfl) (by kernel_rfl) (fun _ _ _ h => h) (Or.inl ⟨by rfl, ?hy9n⟩) hHeld ?rest9n
  case hy9n => intro w9 hSw; go_simp; (try with_reducible rfl)
  try simp only [Act.put, List.setIfInBounds_toArray, List.set_cons_zero, List.set_cons_succ]
  refine wpAnyH_done (by kernel_rfl) ?_ _
  refine NoPanic.normal ?_
  go_wp2
  go_ret
  exact ⟨rfl, hW0.trans (hT.mono hW0.size)⟩
theorem rightF_any (s : ByteArray) (k : Int) (w : World) : Calls Tryz.prog 47 #[fldV s k] w fun e w' => e = .returned (.bool (rightF s k)) ∧ Below w.heap.size w w' := by
  unfold rightF
  cases hs : nameB s with
  | true => simpa using rightF_yes s k w hs
  | false => simpa using rightF_not s k w hs
end Go.Proofs.YtahlmlbfgijcpaaGreatDoor
namespace Go.Proofs.YtahlmlbfgijcpaaGreatDoor
open Go.RowKit Go.Maps Go.WideMaps

/-- What the map tells of the first names. -/
structure Seen (Nm : Nat → ByteArray) (k : Nat) (D : DataW Unit) : Prop where
  has : ∀ s, Maps.has D (keyS s) = seenB Nm s k
  le : Maps.size D ≤ k
  lt : Maps.size D < k ↔ dupB Nm k = true
theorem seen_none (Nm : Nat → ByteArray) : Seen Nm 0 (.map []) := ⟨fun _ => rfl, Nat.le_refl _, by simp [dupB]⟩
theorem Seen.more {Nm : Nat → ByteArray} {k : Nat} {D : DataW Unit} (h : Seen Nm k D) (hm : IsMap D) (ht : Tidy D) (d : DataW Unit) : Seen Nm (k + 1) (D.put (keyS (Nm k)) d) := by
  have e := size_put (k := keyS (Nm k)) ht d
  rw [h.has] at e
  refine ⟨fun s => ?_, ?_, ?_⟩
  · by_cases hs : Nm k = s
    · subst hs
      rw [has_put_same hm (by simp [WideAt.IsKeyLit])]
      simp [seenB]
    · rw [has_put_other (keyS_ne fun q => hs q.symm), h.has]
      simp [seenB, hs]
  · rw [e]
    have := h.le
    split <;> omega
  · rw [e]
    have h1 := h.le
    have h2 := h.lt
    simp only [dupB, Bool.or_eq_true]
    cases hs : seenB Nm (Nm k) k with
    | true => simp; omega
    | false => simp [← h2]
theorem Seen.dup {Nm : Nat → ByteArray} {k : Nat} {D : DataW Unit} (h : Seen Nm k D) : decide (Maps.size D < k) = dupB Nm k := by
  rw [Bool.eq_iff_iff, decide_eq_true_eq, ← h.lt]
set_option maxHeartbeats 1000000 in
theorem check1_any (a : Option Addr) (n cap i p : Nat) (Nm : Nat → ByteArray) (V : Nat → Value) (w : World) (H : Row2 w a n Nm V) (hi : i < n) (hn : n ≤ 9223372036854775807) (hp : w.cell? ⟨p, 1, none⟩ = some (.slice a n cap)) :
    Calls Tryz.prog 46 #[.int .i64 i, .pointer (some ⟨p, 0, none⟩)] w fun e w' => e = .returned (.string (Nm i)) ∧ w' = w := by
  obtain ⟨b, off, rfl, hc⟩ := H (by omega)
  have f0 := (hc i hi).1.1
  clear H hc
  go_enter Tryz.func46, Tryz.ntmps46
  go_wp2
  go_ret
  exact ⟨rfl, rfl⟩
set_option maxRecDepth 100000 in
set_option maxHeartbeats 2000000 in
theorem twice_check (a : Option Addr) (n cap p : Nat) (Nm : Nat → ByteArray) (V : Nat → Value) (w : World) (H : Row2 w a n Nm V) (hn : n ≤ 16) (hp : w.cell? ⟨p, 1, none⟩ = some (.slice a n cap)) :
    Calls Tryz.prog 27 #[.int .i64 n, .func (.func 46) #[] #[.pointer (some ⟨p, 0, none⟩)]] w fun e w' => e = .returned (.bool (dupB Nm n)) ∧ Below w.heap.size w w' := by
  have hmm := @run_makeMap Tryz.prog
  have HC : Hid (Row2 w a n Nm V) := H
  have HP : Hid (w.cell? ⟨p, 1, none⟩ = some (.slice a n cap)) := hp
  clear H hp
  go_enter Tryz.func27, Tryz.ntmps27
  go_wp2
  go_loopw [9] (fun v wr => ∃ k : Nat, k ≤ n ∧ v = .int .i64 k ∧ (∃ D, wr.ownsMap Tryz.prog 9 (plainElem (H := Unit) Tryz.prog 3) w.heap.size k D ∧ Hid (Seen Nm k D)) ∧ Below w.heap.size w wr) (fun v _ => n - (intOf v).toNat)
  case atStart => exact ⟨0, Nat.zero_le _, rfl, ⟨_, World.ownsMap_made _ _ _ _, seen_none Nm⟩, (Below.refl _ _).alloc (Nat.le_refl _) _⟩
  case round =>
    obtain ⟨k, hk, rfl, ⟨D, hown, HS⟩, hB⟩ := hrel
    by_cases hkn : k < n
    · have C : Hid (Calls Tryz.prog 46 _ wr _) := check1_any a n cap k p Nm V wr (HC.out.later hB) hkn (by omega) (cell_later HP.out hB)
      have hsz : (Nm k).size ≤ maxLen := by
        obtain ⟨_, _, _, hc⟩ := HC.out (by omega)
        exact (hc k hkn).2
      have HZ : Hid ((Nm k).size ≤ maxLen) := hsz
      have hkey : keyOf Tryz.prog 9 (.string (Nm k)) = some (keyS (Nm k)) := keyOf_string_mk Tryz.underlying9 hsz
      clear hsz
      go_wp2_with (first
        | (go_at_call 46; refine C.out.mono ?_; rintro e w1 ⟨rfl, hw1⟩; replace hw1 := hw1.symm; subst hw1)
        | (at_mapUpdate; refine wpList_mapUpdate_own _ rfl _ _ _ 98 rfl 9 3 str_law Tryz.underlying98 (plainElem (H := Unit) Tryz.prog 3) w.heap.size k _ rfl hown (by unfold maxLen; omega) _ _ _ rfl rfl hkey _ [] (plainElem_int Tryz.underlying3 (WalkArith.wf_i64 (by omega))) ?_; intro w1 hown1 hgrow1)
        | go_in)
      go_roundw
      case rel => exact ⟨k + 1, by omega, by go_num, ⟨_, hown1, HS.out.more hown.isMap (hown.tidy str_law) _⟩, hB.grown hgrow1 hB.size (fun j hj => by cases hj; exact Nat.le_refl _)⟩
      case measure => simp [intOf]; omega
    · obtain rfl : k = n := by omega
      go_wp2_with (first
        | (at_len; refine wpList_len_own _ rfl _ 98 rfl 9 3 Tryz.underlying98 _ w.heap.size k _ rfl hown ?_)
        | go_in)
      go_ret
      exact ⟨ret_bool HS.out.dup, hB⟩
set_option maxHeartbeats 1000000 in
theorem book1_any (a : Option Addr) (n cap i p : Nat) (Nm : Nat → ByteArray) (V : Nat → Value) (w : World) (H : Row2 w a n Nm V) (hi : i < n) (hn : n ≤ 9223372036854775807) (hp : w.cell? ⟨p, 0, none⟩ = some (.slice a n cap)) :
    Calls Tryz.prog 28 #[.int .i64 i, .pointer (some ⟨p, 0, none⟩)] w fun e w' => e = .returned (.string (Nm i)) ∧ w' = w := by
  obtain ⟨b, off, rfl, hc⟩ := H (by omega)
  have f0 := (hc i hi).1.1
  clear H hc
  go_enter Tryz.func28, Tryz.ntmps28
  go_wp2
  go_ret
  exact ⟨rfl, rfl⟩
set_option maxRecDepth 100000 in
set_option maxHeartbeats 2000000 in
theorem twice_book (a : Option Addr) (n cap p : Nat) (Nm : Nat → ByteArray) (V : Nat → Value) (w : World) (H : Row2 w a n Nm V) (hn : n ≤ 16) (hp : w.cell? ⟨p, 0, none⟩ = some (.slice a n cap)) :
    Calls Tryz.prog 27 #[.int .i64 n, .func (.func 28) #[] #[.pointer (some ⟨p, 0, none⟩)]] w fun e w' => e = .returned (.bool (dupB Nm n)) ∧ Below w.heap.size w w' := by
  have hmm := @run_makeMap Tryz.prog
  have HC : Hid (Row2 w a n Nm V) := H
  have HP : Hid (w.cell? ⟨p, 0, none⟩ = some (.slice a n cap)) := hp
  clear H hp
  go_enter Tryz.func27, Tryz.ntmps27
  go_wp2
  go_loopw [9] (fun v wr => ∃ k : Nat, k ≤ n ∧ v = .int .i64 k ∧ (∃ D, wr.ownsMap Tryz.prog 9 (plainElem (H := Unit) Tryz.prog 3) w.heap.size k D ∧ Hid (Seen Nm k D)) ∧ Below w.heap.size w wr) (fun v _ => n - (intOf v).toNat)
  case atStart => exact ⟨0, Nat.zero_le _, rfl, ⟨_, World.ownsMap_made _ _ _ _, seen_none Nm⟩, (Below.refl _ _).alloc (Nat.le_refl _) _⟩
  case round =>
    obtain ⟨k, hk, rfl, ⟨D, hown, HS⟩, hB⟩ := hrel
    by_cases hkn : k < n
    · have C : Hid (Calls Tryz.prog 28 _ wr _) := book1_any a n cap k p Nm V wr (HC.out.later hB) hkn (by omega) (cell_later HP.out hB)
      have hsz : (Nm k).size ≤ maxLen := by
        obtain ⟨_, _, _, hc⟩ := HC.out (by omega)
        exact (hc k hkn).2
      have HZ : Hid ((Nm k).size ≤ maxLen) := hsz
      have hkey : keyOf Tryz.prog 9 (.string (Nm k)) = some (keyS (Nm k)) := keyOf_string_mk Tryz.underlying9 hsz
      clear hsz
      go_wp2_with (first
        | (go_at_call 28; refine C.out.mono ?_; rintro e w1 ⟨rfl, hw1⟩; replace hw1 := hw1.symm; subst hw1)
        | (at_mapUpdate; refine wpList_mapUpdate_own _ rfl _ _ _ 98 rfl 9 3 str_law Tryz.underlying98 (plainElem (H := Unit) Tryz.prog 3) w.heap.size k _ rfl hown (by unfold maxLen; omega) _ _ _ rfl rfl hkey _ [] (plainElem_int Tryz.underlying3 (WalkArith.wf_i64 (by omega))) ?_; intro w1 hown1 hgrow1)
        | go_in)
      go_roundw
      case rel => exact ⟨k + 1, by omega, by go_num, ⟨_, hown1, HS.out.more hown.isMap (hown.tidy str_law) _⟩, hB.grown hgrow1 hB.size (fun j hj => by cases hj; exact Nat.le_refl _)⟩
      case measure => simp [intOf]; omega
    · obtain rfl : k = n := by omega
      go_wp2_with (first
        | (at_len; refine wpList_len_own _ rfl _ 98 rfl 9 3 Tryz.underlying98 _ w.heap.size k _ rfl hown ?_)
        | go_in)
      go_ret
      exact ⟨ret_bool HS.out.dup, hB⟩
end Go.Proofs.YtahlmlbfgijcpaaGreatDoor
