/-
  Bytes and texts, for a seat without vint: slices of bytes as lists, what the call owns, append, a slice of bytes as a string and back; a string's bytes. (The like of GetAny, Put, Conv, App and Bytes, less what is vint's.)
  Package value's small calls: Null, Bool, Int, Text.
  Slices that came in, by index: of integers, of strings.
  A law on regions that draw their order, of no program: behind an operation the condition that the region is held under may be made stricter.
  value.Order answers by K, then by N, then by S's bytes (P6.1).
  value.Right answers what the document's word 'right' says (P6.1).
  The order is an order: plain facts on 'ordZ'.
  Values as they lie in memory, one by itself and in a row; the first place of a name; of no function.
-/
import Derived.Test.YtinnhaojmnmliaaRows
import Derived.WalkKit
import Derived.WalkLawsBesides
import Derived.WalkSpells
import Derived.OpenShut
import Derived.Deep.LoopGhost
import Derived.Outline
import Derived.Laws.CopyOwn
import Derived.Laws.AppendOwn
import Derived.Laws.BytesString
import Derived.Laws.IdiomStrings
import Derived.Laws.RangeAny
import Derived.OwnWalk
import Derived.Lib.AppendStr
import Derived.Deep.RegionWith
import Derived.Below
import Derived.SizedLaws
import Derived.Deep.RegionHeld3
import Derived.LoopN
namespace Go.Proofs.Ytinnhaojmnmliaa
open Go.RowKit

theorem ret_int {k : IntKind} {a b : Int} (h : a = b) : Ending.returned (.int k a) = .returned (.int k b) := by rw [h]
theorem ret_bool {a b : Bool} (h : a = b) : Ending.returned (.bool a) = .returned (.bool b) := by rw [h]
def intOf : Value → Int | .int _ q => q | _ => 0
/-- A slice of bytes that came in: its elements are 'zs'. -/
def IsBytes (w : World) (a : Option Addr) (len cap : Nat) (zs : List Int) : Prop :=
  zs.length = len ∧ len ≤ cap ∧ cap ≤ maxLen ∧ (a = none → cap = 0) ∧ (∀ j : Nat, 0 ≤ zs[j]?.getD 0 ∧ zs[j]?.getD 0 ≤ 255) ∧
    (0 < len → ∃ b off, a = some ⟨b, off, none⟩ ∧ ∀ j, j < len → w.cell? ⟨b, off + j, none⟩ = some (.int .u8 (zs[j]?.getD 0)))
theorem mem_bd {zs : List Int} (h : ∀ j : Nat, 0 ≤ zs[j]?.getD 0 ∧ zs[j]?.getD 0 ≤ 255) : ∀ c ∈ zs, 0 ≤ c ∧ c ≤ 255 := by
  intro c hc
  obtain ⟨j, hj, rfl⟩ := List.getElem_of_mem hc
  simpa [hj] using h j
/-- Bytes as cells. -/
def cellsOf (l : List Int) : List Value := l.map (Value.int .u8)
theorem cellsOf_append (a b : List Int) : cellsOf (a ++ b) = cellsOf a ++ cellsOf b := by simp [cellsOf]
theorem cellsOf_length (a : List Int) : (cellsOf a).length = a.length := by simp [cellsOf]
theorem info5 : (Try.prog.info? 5).map (fun i => (i.zero, i.size, i.bytes)) = some (some (.int .u8 0), 1, 1) := by kernel_rfl
theorem size5 : (Try.prog.info? 5).map (·.size) = some 1 := by kernel_rfl
theorem addr_add (b off j : Nat) : (⟨b, off, none⟩ : Addr).add j = ⟨b, off + j, none⟩ := by
  unfold Addr.add; split <;> simp_all
/-- The string of these bytes. -/
def strOf (l : List Int) : ByteArray := l.foldl (fun r n => r.push (UInt8.ofNat n.toNat)) ByteArray.empty

/-- A row that the call owns, as a slice of bytes that another call reads. -/
theorem isBytes_own {w : World} {base len : Nat} {v : Value} {l : List Int} (h : w.ownsRow base 5 1 v len (cellsOf l)) (hb : ∀ c ∈ l, 0 ≤ c ∧ c ≤ 255) : ∃ a cap, v = .slice a len cap ∧ IsBytes w a len cap l := by
  obtain ⟨h1, h2⟩ := h
  rw [cellsOf_length] at h1
  have hr : ∀ j : Nat, 0 ≤ l[j]?.getD 0 ∧ l[j]?.getD 0 ≤ 255 := by
    intro j
    by_cases hj : j < l.length
    · simpa [hj] using hb l[j] (List.getElem_mem hj)
    · simp [Nat.not_lt.1 hj]
  rcases h2 with ⟨rfl, rfl⟩ | ⟨g, cap, cur, rfl, _, hg, hle, hm, hsz, ht⟩
  · exact ⟨none, 0, rfl, by omega, Nat.le_refl _, Nat.zero_le _, fun _ => rfl, hr, fun h => by omega⟩
  · refine ⟨some ⟨g, 0, none⟩, cap, rfl, by omega, hle, hm, (by intro h; cases h), hr, fun _ => ⟨g, 0, rfl, fun j hj => ?_⟩⟩
    have hj1 : j < l.length := by omega
    have hj2 : cur.toList[j]? = some (.int .u8 l[j]) := by
      have : (cur.toList.take (len * 1))[j]? = some (.int .u8 l[j]) := by rw [ht]; simp [cellsOf, hj1]
      rw [List.getElem?_take] at this
      split at this
      · exact this
      · cases this
    simp at hj2
    simp [World.cell?, hg, hj2, hj1]

/-- What is owned stays owned where nothing that was there turns. -/
theorem own_below {w w' : World} {B e size n : Nat} {v : Value} {xs : List Value} (h : w.ownsRow B e size v n xs) (hb : Below w.heap.size w w') : w'.ownsRow B e size v n xs :=
  h.kept (row := none) ⟨hb.os, hb.tape, hb.output, hb.size, fun k hk _ => hb.block k hk⟩ (Classical.em _)
/-- An append in a walk, by its run. -/
theorem wpList_append_run {P : Program} {w w' : World} {ops : Array Oper} {rest : List Oper} {o : Oper} {a : Act} {Q : Exit → Act → World → Prop} (hg : o.guard = none) (s x : Operand) (t : TypeId)
    (hop : o.op = Op.call { callee := Callee.builtin Builtin.append, args := #[s, x], argTypes := #[t, t] }) (v y v' : Value) (hs : a.eval s = v) (hx : a.eval x = y)
    (hrun : (Builtin.append_ #[t, t] o.type #[v, y]).run P w = .ok v' w') (hK : wpList P ops Q rest (a.put o.dst v') w') : wpList P ops Q (o :: rest) a w := by
  refine wpList_plain hg fun K hK' => ?_
  unfold Oper.wp
  simp [execOp, hop, resolve, invoke, builtin, hs, hx, hrun, Result.andThen]
  exact hK' _ _ hK
theorem IsBytes.later {w w' : World} {a : Option Addr} {len cap : Nat} {zs : List Int} (h : IsBytes w a len cap zs) (hb : Below w.heap.size w w') : IsBytes w' a len cap zs := by
  obtain ⟨h1, h2, h3, h4, h5, h6⟩ := h
  refine ⟨h1, h2, h3, h4, h5, fun h0 => ?_⟩
  obtain ⟨b, off, e, hc⟩ := h6 h0
  refine ⟨b, off, e, fun j hj => ?_⟩
  have hcj := hc j hj
  rw [hb.cell (p := ⟨b, off + j, none⟩) (World.block_lt_of_cell? w _ hcj), hcj]
theorem isBytes_one (w : World) (c : Int) (h0 : 0 ≤ c) (h1 : c ≤ 255) : IsBytes (w.alloc (.cells #[.int .u8 c] 5)) (some ⟨w.heap.size, 0, none⟩) 1 1 [c] := by
  refine ⟨rfl, Nat.le_refl _, by unfold maxLen; omega, (by intro h; cases h), ?_, fun _ => ⟨w.heap.size, 0, rfl, ?_⟩⟩
  · intro j
    cases j with
    | zero => simpa using ⟨h0, h1⟩
    | succ j => simp
  · intro j hj
    obtain rfl : j = 0 := by omega
    simp
theorem isBytes_nil (w : World) : IsBytes w none 0 0 [] := ⟨rfl, Nat.le_refl _, Nat.zero_le _, fun _ => rfl, fun j => by simp, fun h => by omega⟩

theorem strOf_from (l : List Int) : ∀ r : ByteArray, (l.foldl (fun r n => r.push (UInt8.ofNat n.toNat)) r).size = r.size + l.length := by
  induction l with
  | nil => intro r; rfl
  | cons x l ih => intro r; rw [List.foldl_cons, ih, ByteArray.size_push, List.length_cons]; omega
theorem strOf_size (l : List Int) : (strOf l).size = l.length := by
  rw [strOf, strOf_from]; simp

/-- The bytes of a string. -/
def bytesS (s : ByteArray) : List Int := s.data.toList.map fun b => (b.toNat : Int)
theorem bytesS_length (s : ByteArray) : (bytesS s).length = s.size := by
  rw [bytesS, List.length_map, Array.length_toList]; rfl
theorem bytesS_cells (s : ByteArray) : Lib.strCells s = cellsOf (bytesS s) := by simp [Lib.strCells, cellsOf, bytesS, Function.comp_def]
theorem bytesS_bd (s : ByteArray) : ∀ c ∈ bytesS s, 0 ≤ c ∧ c ≤ 255 := by
  intro c hc
  obtain ⟨b, _, rfl⟩ := List.mem_map.1 hc
  have := b.toNat_lt
  omega

theorem foldl_push (l : List Int) : ∀ r : ByteArray, l.foldl (fun r n => r.push (UInt8.ofNat n.toNat)) r = ⟨r.data ++ (l.map fun n => UInt8.ofNat n.toNat).toArray⟩ := by
  induction l with
  | nil => intro r; simp
  | cons x l ih => intro r; rw [List.foldl_cons, ih]; simp [ByteArray.push]
theorem strOf_data (l : List Int) : (strOf l).data.toList = l.map fun n => UInt8.ofNat n.toNat := by
  rw [strOf, foldl_push]
  have he0 : ByteArray.empty.data = #[] := rfl
  rw [he0]; simp
theorem bytesS_strOf (l : List Int) (h : ∀ c ∈ l, 0 ≤ c ∧ c ≤ 255) : bytesS (strOf l) = l := by
  rw [bytesS, strOf_data, List.map_map]
  conv => rhs; rw [← List.map_id l]
  refine List.map_congr_left fun c hc => ?_
  have := h c hc
  simp
  omega
theorem strOf_bytesS (s : ByteArray) : strOf (bytesS s) = s := by
  apply ByteArray.ext
  apply Array.ext'
  rw [strOf_data, bytesS, List.map_map]
  conv => rhs; rw [← List.map_id s.data.toList]
  refine List.map_congr_left fun c hc => ?_
  simp
/-- The byte at a place. -/
def byteAt (s : ByteArray) (k : Nat) : Int := (bytesS s)[k]?.getD 0
theorem byteAt_get (s : ByteArray) (k : Nat) (h : k < s.size) : ((s[k]'h).toNat : Int) = byteAt s k := by
  have h' : k < s.data.size := h
  have e : s.data[k]? = some (s.data[k]'h') := Array.getElem?_eq_getElem h'
  simp only [byteAt, bytesS, List.getElem?_map, Array.getElem?_toList, e, Option.map_some, Option.getD_some]
  rfl
theorem byteAt_bd (s : ByteArray) (k : Nat) : 0 ≤ byteAt s k ∧ byteAt s k ≤ 255 := by
  unfold byteAt
  by_cases hk : k < (bytesS s).length
  · simpa [hk] using bytesS_bd s _ (List.getElem_mem hk)
  · simp [Nat.not_lt.1 hk]
/-- A string's byte, in a walk. -/
theorem at_str (s : ByteArray) (k : Nat) (h : k < s.size) (w : World) : (Instr.index 9 (.string s) (.int .i64 (k : Int))).run Try.prog w = .ok (.int .u8 (byteAt s k)) w := by
  rw [run_index_string w 9 s .i64 (k : Int) Try.underlying9, dif_pos ⟨by omega, by omega⟩]
  have e := byteAt_get s k h
  simp only [Int.toNat_natCast]
  rw [e]
end Go.Proofs.Ytinnhaojmnmliaa
namespace Go.Proofs.Ytinnhaojmnmliaa
open Go.RowKit

/-- A value of the program, as the model has it; and as it lies in a block of its own. -/
abbrev valV (k n : Int) (s : ByteArray) : Value := .agg #[.int .i64 k, .int .i64 n, .string s]
abbrev valO (k n : Int) (s : ByteArray) : Obj := .cells #[.int .i64 k, .int .i64 n, .string s] 67

theorem below_two (w : World) (o p : Obj) : Below w.heap.size w ((w.alloc o).alloc p).drew :=
  (((Below.refl _ w).alloc (Nat.le_refl _) _).alloc (by simp) _).drew
theorem below_three (w : World) (o p q : Obj) : Below w.heap.size w (((w.alloc o).alloc p).alloc q).drew :=
  ((((Below.refl _ w).alloc (Nat.le_refl _) _).alloc (by simp) _).alloc (by simp; omega) _).drew

end Go.Proofs.Ytinnhaojmnmliaa
namespace Go.Proofs.Ytinnhaojmnmliaa
open Go.RowKit

/-- A slice of integers that came in, by index. -/
def Ints (k : IntKind) (w : World) (a : Option Addr) (len : Nat) (z : Nat → Int) : Prop :=
  0 < len → ∃ b off, a = some ⟨b, off, none⟩ ∧ ∀ j, j < len → w.cell? ⟨b, off + j, none⟩ = some (.int k (z j)) ∧ (Lit.int k (z j)).wf = true
/-- A slice of strings that came in, by index, none longer than M. -/
def Strs (M : Nat) (w : World) (a : Option Addr) (len : Nat) (S : Nat → ByteArray) : Prop :=
  0 < len → ∃ b off, a = some ⟨b, off, none⟩ ∧ ∀ j, j < len → w.cell? ⟨b, off + j, none⟩ = some (.string (S j)) ∧ (S j).size ≤ M
theorem wf_u64 {n : Int} (h : (Lit.int .u64 n).wf = true) : 0 ≤ n ∧ n < 18446744073709551616 := by
  simp [Lit.wf, IntKind.min, IntKind.max, IntKind.bits, IntKind.signed] at h
  omega
theorem wf_u8 {n : Int} (h : (Lit.int .u8 n).wf = true) : 0 ≤ n ∧ n ≤ 255 := by
  simp [Lit.wf, IntKind.min, IntKind.max, IntKind.bits, IntKind.signed] at h
  omega
theorem wf_i64 {n : Int} (h : (Lit.int .i64 n).wf = true) : -9223372036854775808 ≤ n ∧ n < 9223372036854775808 := by
  simp [Lit.wf, IntKind.min, IntKind.max, IntKind.bits, IntKind.signed] at h
  omega
/-- A cell that came in, in a later world. -/
theorem cell_later {w w' : World} {p : Addr} {v : Value} (h : w.cell? p = some v) (b : Below w.heap.size w w') : w'.cell? p = some v := by
  rw [b.cell (World.block_lt_of_cell? w _ h), h]
/-- What the kit's shell tells of a slice of integers. -/
theorem ints_of {k : IntKind} {w : World} {a : Option Addr} {len cap : Nat} {zs : List Int} (h : (a = none ∧ len = 0 ∧ cap = 0 ∧ zs = []) ∨ ∃ x, a = some x ∧ len ≤ cap ∧ cap ≤ maxLen ∧ zs.length = cap ∧ (∀ i, i < zs.length → w.cell? (x.add i) = some (.int k (zs.getD i 0))) ∧ ∀ n ∈ zs, (Lit.int k n).wf = true) :
    ∃ z, Ints k w a len z ∧ len ≤ maxLen := by
  rcases h with ⟨rfl, rfl, rfl, rfl⟩ | ⟨x, rfl, hl, hm, hz, hcell, hwz⟩
  · exact ⟨fun _ => 0, fun h => by omega, Nat.zero_le _⟩
  · refine ⟨fun j => zs.getD j 0, fun h0 => ?_, Nat.le_trans hl hm⟩
    obtain ⟨b, off, spot⟩ := x
    have hspot : spot = none := by simpa [Addr.add] using World.cell?_spot (hcell 0 (by omega))
    subst hspot
    refine ⟨b, off, rfl, fun j hj => ⟨?_, ?_⟩⟩
    · have e : (⟨b, off, none⟩ : Addr).add j = ⟨b, off + j, none⟩ := by unfold Addr.add; split <;> simp_all
      rw [← e]
      exact hcell j (by omega)
    · have hj' : j < zs.length := by omega
      have := hwz zs[j] (List.getElem_mem hj')
      simpa [List.getD_eq_getElem?_getD, hj'] using this
theorem strs_of {M : Nat} {w : World} {a : Option Addr} {len cap : Nat} {S : Nat → ByteArray} (h : (a = none ∧ len = 0 ∧ cap = 0) ∨ ∃ x, a = some x ∧ len ≤ cap ∧ cap ≤ maxLen ∧ ∀ i, i < len → w.cell? (x.add i) = some (.string (S i)) ∧ (S i).size ≤ M) :
    Strs M w a len S ∧ len ≤ maxLen := by
  rcases h with ⟨rfl, rfl, rfl⟩ | ⟨x, rfl, hl, hm, hcell⟩
  · exact ⟨fun h => by omega, Nat.zero_le _⟩
  · refine ⟨fun h0 => ?_, Nat.le_trans hl hm⟩
    obtain ⟨b, off, spot⟩ := x
    have hspot : spot = none := by simpa [Addr.add] using World.cell?_spot (hcell 0 (by omega)).1
    subst hspot
    refine ⟨b, off, rfl, fun j hj => ?_⟩
    have e : (⟨b, off, none⟩ : Addr).add j = ⟨b, off + j, none⟩ := by unfold Addr.add; split <;> simp_all
    rw [← e]
    exact hcell j hj
theorem mem_weightsAll {H : Type} {P : Program} {e : TypeId} {d : DataW H} {n : Nat} : ∀ {l : List (DataW H)}, d ∈ l → n ∈ d.weights P e → n ∈ DataW.weightsAll P e l
  | [], h, _ => by cases h
  | x :: l, h, hn => by
    simp only [DataW.weightsAll, List.mem_append]
    rcases List.mem_cons.1 h with rfl | h
    · exact .inl hn
    · exact .inr (mem_weightsAll h hn)
/-- The form's own reach, of each string of a slice that came in. -/
theorem sized_strs {H : Type} {P : Program} {ts : List TypeId} {ds : List (DataW H)} (h : (DataW.weightsEach P ts ds).all (· ≤ reachBytes) = true) {j : Nat} {t e : TypeId} {len : Nat} {S : Nat → ByteArray} {spare : List (DataW H)} (ht : ts[j]? = some t)
    (hd : ds[j]? = some (.slice ((List.range len).map fun i => .lit (.string (S i).data.toList)) spare)) (hu : P.underlying t = some (.slice e)) (i : Nat) (hi : i < len) : (S i).size ≤ 140737488351232 := by
  have hm : (S i).data.toList.length ∈ DataW.weightsAll (H := H) P e ((List.range len).map fun i => .lit (.string (S i).data.toList)) :=
    mem_weightsAll (List.mem_map.2 ⟨i, List.mem_range.2 hi, rfl⟩) (by simp [DataW.weights])
  have := List.all_eq_true.1 h _ (DataW.weights_mem_each ht hd _ (by simp only [DataW.weights, hu, List.mem_cons, List.mem_append]; exact .inr (.inl hm)))
  have e : (S i).data.toList.length = (S i).size := by rw [Array.length_toList]; rfl
  rw [e] at this
  exact of_decide_eq_true this
end Go.Proofs.Ytinnhaojmnmliaa
namespace Go.Proofs.Ytinnhaojmnmliaa
open Go

theorem held_up {P : Program} {md : Region.Mode} {ops : Array Oper} {Q : Exit → Act → World → Prop} {S S' : World → Prop} (h : ∀ w, S' w → S w) :
    ∀ (fuel : Nat) (listed : Array Bool) (a : Act) (w : World), wpAnyH P md ops Q S' fuel listed a w → wpAnyH P md ops Q S fuel listed a w
  | 0, _, _, _, k => k
  | fuel + 1, _, _, _, k => ⟨k.1, fun i hi => wpOp_mono (fun a' w' k' => ⟨h w' k'.1, held_up h fuel _ a' w' k'.2⟩) (k.2 i hi)⟩
end Go.Proofs.Ytinnhaojmnmliaa
namespace Go.Proofs.Ytinnhaojmnmliaa
open Go.RowKit

/-- Two numbers, two texts: -1, 0 or 1. -/
def cmpI (a b : Int) : Int := if a < b then -1 else if b < a then 1 else 0
def cmpS (s t : ByteArray) : Int := if Op.bytesLess s.toList t.toList then -1 else if s.toList == t.toList then 0 else 1
/-- The order. -/
def ordZ (k n : Int) (s : ByteArray) (k' n' : Int) (s' : ByteArray) : Int :=
  if cmpI k k' ≠ 0 then cmpI k k' else if cmpI n n' ≠ 0 then cmpI n n' else cmpS s s'

end Go.Proofs.Ytinnhaojmnmliaa
namespace Go.Proofs.Ytinnhaojmnmliaa
open Go.RowKit

/-- The word 'right'. -/
def rightB (k n : Int) (s : ByteArray) : Bool :=
  if k = 0 then decide (n = 0) && s.toList == []
  else if k = 1 then (decide (n = 0) || decide (n = 1)) && s.toList == []
  else if k = 2 then s.toList == []
  else if k = 3 then decide (n = 0) && decide (s.size ≤ 256)
  else false

theorem empty_str {s : ByteArray} (h : (s.toList == []) = true) : s = ⟨#[]⟩ := by
  rw [ByteArray.toList_eq] at h
  obtain ⟨⟨x⟩⟩ := s
  cases x with
  | nil => rfl
  | cons a l => simp at h
theorem toList_empty : ((⟨#[]⟩ : ByteArray).toList == []) = true := by rw [ByteArray.toList_eq]; rfl

end Go.Proofs.Ytinnhaojmnmliaa
namespace Go.Proofs.Ytinnhaojmnmliaa
open Go.RowKit

theorem less_irrefl : ∀ l : List UInt8, Op.bytesLess l l = false
  | [] => rfl
  | a :: l => by simp [Op.bytesLess, less_irrefl l, UInt8.lt_irrefl]
theorem less_total : ∀ l m : List UInt8, l ≠ m → Op.bytesLess l m = !Op.bytesLess m l
  | [], [], h => absurd rfl h
  | [], b :: m, _ => by simp [Op.bytesLess]
  | a :: l, [], _ => by simp [Op.bytesLess]
  | a :: l, b :: m, h => by
    simp only [Op.bytesLess]
    by_cases hab : a = b
    · subst hab
      have := less_total l m (fun e => h (by rw [e]))
      simp [UInt8.lt_irrefl, this]
    · have hba : ¬ b = a := fun e => hab e.symm
      have h1 : (a == b) = false := by simpa using hab
      have h2 : (b == a) = false := by simpa using hba
      rw [h1, h2]
      rcases UInt8.lt_or_lt_of_ne hab with h3 | h3
      · simp [h3, UInt8.lt_asymm h3]
      · simp [h3, UInt8.lt_asymm h3]
theorem less_trans : ∀ l m r : List UInt8, Op.bytesLess l m = true → Op.bytesLess m r = true → Op.bytesLess l r = true
  | _, [], _, h, _ => by simp [Op.bytesLess] at h
  | _, _ :: _, [], _, h => by simp [Op.bytesLess] at h
  | [], _ :: _, _ :: _, _, _ => by simp [Op.bytesLess]
  | a :: l, b :: m, c :: r, h1, h2 => by
    simp only [Op.bytesLess, Bool.or_eq_true, decide_eq_true_eq, Bool.and_eq_true, beq_iff_eq] at h1 h2 ⊢
    rcases h1 with h1 | ⟨rfl, h1⟩
    · rcases h2 with h2 | ⟨rfl, h2⟩
      · exact .inl (UInt8.lt_trans h1 h2)
      · exact .inl h1
    · rcases h2 with h2 | ⟨rfl, h2⟩
      · exact .inl h2
      · exact .inr ⟨rfl, less_trans l m r h1 h2⟩

/-- Two texts: what cmpS says of their bytes. -/
theorem cmpS_cases (s t : ByteArray) : (cmpS s t = -1 ∧ Op.bytesLess s.toList t.toList = true ∧ s.toList ≠ t.toList) ∨ (cmpS s t = 0 ∧ s.toList = t.toList) ∨ (cmpS s t = 1 ∧ Op.bytesLess t.toList s.toList = true ∧ s.toList ≠ t.toList) := by
  unfold cmpS
  by_cases h : s.toList = t.toList
  · rw [h]; simp [less_irrefl]
  · have := less_total _ _ h
    cases h1 : Op.bytesLess s.toList t.toList with
    | true => simp [h]
    | false =>
      rw [h1] at this
      have h2 : Op.bytesLess t.toList s.toList = true := by simpa using this
      simp [h, h2]
theorem cmpI_cases (a b : Int) : (cmpI a b = -1 ∧ a < b) ∨ (cmpI a b = 0 ∧ a = b) ∨ (cmpI a b = 1 ∧ b < a) := by
  unfold cmpI
  by_cases h : a < b
  · simp [h]
  · by_cases h' : b < a
    · simp [h, h']
    · exact .inr (.inl ⟨by simp [h, h'], by omega⟩)

variable (k n : Int) (s : ByteArray) (k' n' : Int) (s' : ByteArray) (k2 n2 : Int) (s2 : ByteArray)
/-- What it says of two values. -/
theorem ordZ_cases : (ordZ k n s k' n' s' = -1 ∧ (k < k' ∨ (k = k' ∧ (n < n' ∨ (n = n' ∧ Op.bytesLess s.toList s'.toList = true))))) ∨ (ordZ k n s k' n' s' = 0 ∧ k = k' ∧ n = n' ∧ s.toList = s'.toList) ∨
    (ordZ k n s k' n' s' = 1 ∧ (k' < k ∨ (k' = k ∧ (n' < n ∨ (n' = n ∧ Op.bytesLess s'.toList s.toList = true))))) := by
  unfold ordZ
  rcases cmpI_cases k k' with ⟨e, h⟩ | ⟨e, h⟩ | ⟨e, h⟩
  · simp [e, h]
  · subst h
    rcases cmpI_cases n n' with ⟨f, g⟩ | ⟨f, g⟩ | ⟨f, g⟩
    · simp [e, f, g]
    · subst g
      rcases cmpS_cases s s' with ⟨a, b, _⟩ | ⟨a, b⟩ | ⟨a, b, _⟩
      · simp [e, f, a, b]
      · simp [e, f, a, b]
      · simp [e, f, a, b]
    · simp [e, f, g]
  · simp [e, h]
theorem ordZ_turn : ordZ k' n' s' k n s = -ordZ k n s k' n' s' := by
  have irr := less_irrefl s.toList
  rcases ordZ_cases k n s k' n' s' with ⟨e, h⟩ | ⟨e, h⟩ | ⟨e, h⟩ <;> rcases ordZ_cases k' n' s' k n s with ⟨f, g⟩ | ⟨f, g⟩ | ⟨f, g⟩ <;> rw [e, f] <;> try rfl
  · exfalso
    rcases h with h | ⟨h, h' | ⟨h', h2⟩⟩ <;> rcases g with g | ⟨g, g' | ⟨g', g2⟩⟩ <;> try omega
    have := less_trans _ _ _ h2 g2
    rw [irr] at this
    cases this
  · exfalso
    rcases h with h | ⟨h, h' | ⟨h', h2⟩⟩ <;> obtain ⟨g, g', g2⟩ := g <;> try omega
    rw [g2, irr] at h2; cases h2
  · exfalso
    rcases g with g | ⟨g, g' | ⟨g', g2⟩⟩ <;> obtain ⟨h, h', h2⟩ := h <;> try omega
    rw [h2, less_irrefl] at g2; cases g2
  · exfalso
    rcases g with g | ⟨g, g' | ⟨g', g2⟩⟩ <;> obtain ⟨h, h', h2⟩ := h <;> try omega
    rw [h2, less_irrefl] at g2; cases g2
  · exfalso
    rcases h with h | ⟨h, h' | ⟨h', h2⟩⟩ <;> obtain ⟨g, g', g2⟩ := g <;> try omega
    rw [g2, irr] at h2; cases h2
  · exfalso
    rcases h with h | ⟨h, h' | ⟨h', h2⟩⟩ <;> rcases g with g | ⟨g, g' | ⟨g', g2⟩⟩ <;> try omega
    have := less_trans _ _ _ g2 h2
    rw [irr] at this
    cases this
/-- And it goes on. -/
theorem ordZ_trans (h1 : ordZ k n s k' n' s' ≤ 0) (h2 : ordZ k' n' s' k2 n2 s2 ≤ 0) : ordZ k n s k2 n2 s2 ≤ 0 := by
  have irr := less_irrefl s.toList
  rcases ordZ_cases k n s k2 n2 s2 with ⟨e, h⟩ | ⟨e, h⟩ | ⟨e, h⟩
  · omega
  · omega
  · exfalso
    rcases ordZ_cases k n s k' n' s' with ⟨f, g⟩ | ⟨f, g, g', g2⟩ | ⟨f, g⟩
    · rcases ordZ_cases k' n' s' k2 n2 s2 with ⟨a, b⟩ | ⟨a, b, b', b2⟩ | ⟨a, b⟩
      · rcases h with h | ⟨h, h' | ⟨h', hh⟩⟩ <;> rcases g with g | ⟨g, g' | ⟨g', gg⟩⟩ <;> rcases b with b | ⟨b, b' | ⟨b', bb⟩⟩ <;> try omega
        have := less_trans _ _ _ (less_trans _ _ _ gg bb) hh
        rw [irr] at this
        cases this
      · rw [← b2] at h
        rcases h with h | ⟨h, h' | ⟨h', hh⟩⟩ <;> rcases g with g | ⟨g, g' | ⟨g', gg⟩⟩ <;> try omega
        have := less_trans _ _ _ gg hh
        rw [irr] at this
        cases this
      · omega
    · rcases ordZ_cases k' n' s' k2 n2 s2 with ⟨a, b⟩ | ⟨a, b, b', b2⟩ | ⟨a, b⟩
      · rw [← g2] at b
        rcases h with h | ⟨h, h' | ⟨h', hh⟩⟩ <;> rcases b with b | ⟨b, b' | ⟨b', bb⟩⟩ <;> try omega
        have := less_trans _ _ _ bb hh
        rw [irr] at this
        cases this
      · rw [← b2, ← g2] at h
        rcases h with h | ⟨h, h' | ⟨h', hh⟩⟩ <;> try omega
        rw [irr] at hh
        cases hh
      · omega
    · omega
end Go.Proofs.Ytinnhaojmnmliaa
namespace Go.Proofs.Ytinnhaojmnmliaa
open Go.RowKit

/-- A value. -/
structure Val where
  k : Int
  n : Int
  s : ByteArray
abbrev Val.v (x : Val) : Value := valV x.k x.n x.s
def val0 : Val := ⟨0, 0, ⟨#[]⟩⟩
/-- A slice of values. -/
def Vals (w : World) (a : Option Addr) (len : Nat) (V : Nat → Val) : Prop :=
  0 < len → ∃ b off, a = some ⟨b, off, none⟩ ∧ ∀ j, j < len → w.cell? ⟨b, off + j * 3, none⟩ = some (.int .i64 (V j).k) ∧ w.cell? ⟨b, off + j * 3 + 1, none⟩ = some (.int .i64 (V j).n) ∧ w.cell? ⟨b, off + j * 3 + 2, none⟩ = some (.string (V j).s)
theorem Vals.later {w w' : World} {a : Option Addr} {n : Nat} {V : Nat → Val} (h : Vals w a n V) (hB : Below w.heap.size w w') : Vals w' a n V := by
  intro h0
  obtain ⟨b, off, e, hc⟩ := h h0
  exact ⟨b, off, e, fun j hj => ⟨cell_later (hc j hj).1 hB, cell_later (hc j hj).2.1 hB, cell_later (hc j hj).2.2 hB⟩⟩
/-- The place of the first of some names that is this one. -/
def idx (Nm : Nat → ByteArray) (s : ByteArray) : Nat → Option Nat
  | 0 => none
  | n + 1 => match idx Nm s n with
    | some i => some i
    | none => if Nm n = s then some n else none
theorem idx_some (Nm : Nat → ByteArray) (s : ByteArray) : ∀ (n i : Nat), idx Nm s n = some i → i < n ∧ Nm i = s ∧ ∀ j, j < i → ¬ Nm j = s
  | 0, i, h => by simp [idx] at h
  | n + 1, i, h => by
    simp only [idx] at h
    split at h
    · rename_i j hj
      cases h
      have := idx_some Nm s n i hj
      exact ⟨by omega, this.2⟩
    · rename_i hj
      split at h
      · rename_i e
        cases h
        refine ⟨by omega, e, ?_⟩
        intro j hj' he
        have hnone : ∀ m, idx Nm s m = none → ∀ j, j < m → ¬ Nm j = s := by
          intro m
          induction m with
          | zero => intro _ j hj; omega
          | succ m ih =>
            intro hm j hj
            simp only [idx] at hm
            split at hm
            · cases hm
            · rename_i hi
              split at hm
              · cases hm
              · rename_i e2
                by_cases ej : j = m
                · exact ej ▸ e2
                · exact ih hi j (by omega)
        exact hnone n hj j hj' he
      · cases h
theorem idx_none (Nm : Nat → ByteArray) (s : ByteArray) : ∀ (n : Nat), idx Nm s n = none → ∀ j, j < n → ¬ Nm j = s
  | 0, _, j, hj => by omega
  | n + 1, h, j, hj => by
    simp only [idx] at h
    split at h
    · cases h
    · rename_i hi
      split at h
      · cases h
      · rename_i e2
        by_cases ej : j = n
        · exact ej ▸ e2
        · exact idx_none Nm s n hi j (by omega)
theorem idx_at (Nm : Nat → ByteArray) (s : ByteArray) (n i : Nat) (hi : i < n) (he : Nm i = s) (hl : ∀ j, j < i → ¬ Nm j = s) : idx Nm s n = some i := by
  cases e : idx Nm s n with
  | none => exact absurd he (idx_none Nm s n e i hi)
  | some k =>
    obtain ⟨_, h2, h3⟩ := idx_some Nm s n k e
    rcases Nat.lt_trichotomy k i with h | h | h
    · exact absurd h2 (hl k h)
    · rw [h]
    · exact absurd he (h3 i h)
/-- Are two values the same? -/
def eqV (x y : Val) : Bool := decide (x.k = y.k) && (decide (x.n = y.n) && decide (x.s = y.s))
theorem eqV_self (x : Val) : eqV x x = true := by simp [eqV]
/-- Are the first values the same? -/
def eqVs (V U : Nat → Val) : Nat → Bool
  | 0 => true
  | k + 1 => eqVs V U k && eqV (V k) (U k)
theorem eqVs_not (V U : Nat → Val) : ∀ (n j : Nat), j < n → eqV (V j) (U j) = false → eqVs V U n = false
  | 0, j, h, _ => by omega
  | n + 1, j, hj, h => by
    simp only [eqVs]
    by_cases e : j = n
    · subst e; rw [h, Bool.and_false]
    · rw [eqVs_not V U n j (by omega) h, Bool.false_and]
theorem eqVs_self (V : Nat → Val) : ∀ n, eqVs V V n = true
  | 0 => rfl
  | n + 1 => by simp only [eqVs]; rw [eqVs_self V n, eqV_self]; rfl
end Go.Proofs.Ytinnhaojmnmliaa
