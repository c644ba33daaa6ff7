/-
  The tables as they lie in memory; the signs: strings.HasPrefix, lex.sign.
-/
import Derived.Test.YtdfmehbnhdhbcaaDoorLexMath
import Derived.Test.YtdfmehbnhdhbcaaDoorTxtMore
import Derived.Test.YtdfmehbnhdhbcaaDoorQuoteTabs
import Derived.Test.YtdfmehbnhdhbcaaDoorShelf
namespace Go.Proofs.YtdfmehbnhdhbcaaDoor
open Go.RowKit

def sgC : Array Value := #[.string ⟨#[60, 61]⟩, .string ⟨#[62, 61]⟩, .string ⟨#[60, 62]⟩, .string ⟨#[45, 62]⟩, .string ⟨#[40]⟩, .string ⟨#[41]⟩, .string ⟨#[44]⟩, .string ⟨#[46]⟩, .string ⟨#[43]⟩, .string ⟨#[45]⟩, .string ⟨#[42]⟩, .string ⟨#[47]⟩, .string ⟨#[37]⟩, .string ⟨#[61]⟩, .string ⟨#[60]⟩, .string ⟨#[62]⟩, .string ⟨#[33]⟩, .string ⟨#[124]⟩, .string ⟨#[123]⟩, .string ⟨#[125]⟩, .string ⟨#[91]⟩, .string ⟨#[93]⟩]
/-- The tables lie where the program's text lays them. -/
structure LexT (w : World) : Prop where
  word : Tabs w
  utf : Lib.Utf8Tabs 1 2 w
  sig : ∃ t f, w.heap[0]? = some (.cells sgC t f)
theorem LexT.later {w w' : World} (h : LexT w) (hb : Below w.heap.size w w') : LexT w' := by
  obtain ⟨h1, h2, ⟨t, f, h3⟩⟩ := h
  exact ⟨h1.later hb h1.two, Utf8Tabs_below h2 hb, ⟨t, f, by rw [hb.block _ (lt_of_heap h3)]; exact h3⟩⟩

def sgS (k : Nat) : ByteArray := strOf (signsL[k]?.getD [])
theorem sgS_at (w : World) : (List.range 22).map (fun k : Nat => (Instr.index 53 (.agg sgC) (.int .i64 (k : Int))).run Tryd.prog w) = (List.range 22).map (fun k : Nat => .ok (.string (sgS k)) w) := by kernel_rfl
theorem at_sg (k : Nat) (hk : k < 22) (w : World) : (Instr.index 53 (.agg sgC) (.int .i64 (k : Int))).run Tryd.prog w = .ok (.string (sgS k)) w :=
  List.map_eq_map_iff.1 (sgS_at w) k (List.mem_range.2 hk)
theorem sgS_bytes (k : Nat) : bytesS (sgS k) = signsL[k]?.getD [] := by
  refine bytesS_strOf _ fun c hc => ?_
  have h : ∀ g ∈ signsL, ∀ c ∈ g, 0 ≤ c ∧ c ≤ 255 := by decide
  by_cases hk : k < signsL.length
  · rw [List.getElem?_eq_getElem hk] at hc
    exact h _ (List.getElem_mem hk) c hc
  · rw [List.getElem?_eq_none (by omega)] at hc
    simp at hc
theorem signs_len : signsL.length = 22 := rfl
theorem sgS_ne (k : Nat) (hk : k < 22) : (signsL[k]?.getD []) ≠ [] := by
  have h : ∀ g ∈ signsL, g ≠ [] := by decide
  rw [List.getElem?_eq_getElem (by rw [signs_len]; exact hk)]
  exact h _ (List.getElem_mem _)
/-- The first that stands there. -/
theorem find_at {p : List Int → Bool} : ∀ (L : List (List Int)) (k : Nat), k < L.length → (∀ j, j < k → p (L[j]?.getD []) = false) → p (L[k]?.getD []) = true → L.find? p = some (L[k]?.getD [])
  | [], k, hk, _, _ => by simp at hk
  | g :: L, 0, _, _, h => by
    simp at h
    simp [h]
  | g :: L, k + 1, hk, hj, h => by
    have h0 := hj 0 (by omega)
    simp at h0
    rw [List.find?_cons, h0]
    simp only [List.getElem?_cons_succ] at h ⊢
    exact find_at L k (by simpa using hk) (fun j hjk => by have := hj (j + 1) (by omega); simpa using this) h
theorem find_no {p : List Int → Bool} (L : List (List Int)) (hj : ∀ j, j < L.length → p (L[j]?.getD []) = false) : L.find? p = none := by
  rw [List.find?_eq_none]
  intro g hg
  obtain ⟨j, hjl, rfl⟩ := List.getElem_of_mem hg
  have := hj j hjl
  rw [List.getElem?_eq_getElem hjl] at this
  simpa using this
theorem sgnL_at (l : List Int) (k : Nat) (hk : k < 22) (hj : ∀ j, j < k → preB l (bytesS (sgS j)) = false) (h : preB l (bytesS (sgS k)) = true) : sgnL l = bytesS (sgS k) := by
  unfold sgnL
  rw [find_at signsL k (by rw [signs_len]; exact hk) (fun j hjk => by have := hj j hjk; rwa [sgS_bytes] at this) (by rwa [sgS_bytes] at h), sgS_bytes]
  rfl
theorem sgnL_no (l : List Int) (hj : ∀ j, j < 22 → preB l (bytesS (sgS j)) = false) : sgnL l = [] := by
  unfold sgnL
  rw [find_no signsL (fun j hjk => by have := hj j (by rwa [signs_len] at hjk); rwa [sgS_bytes] at this)]
  rfl

theorem pre_str (s g : ByteArray) : ((s.extract 0 g.size).toList == g.toList) = preB (bytesS s) (bytesS g) := by
  rw [toList_beq, bytes_take]
  unfold preB
  rw [bytesS_length]
theorem pre_short (s g : ByteArray) (h : s.size < g.size) : preB (bytesS s) (bytesS g) = false := by
  unfold preB
  refine beq_eq_false_iff_ne.2 fun e => ?_
  have := congrArg List.length e
  rw [List.length_take, bytesS_length, bytesS_length] at this
  omega
set_option maxRecDepth 100000 in
set_option maxHeartbeats 1000000 in
theorem hasPre_any (s g : ByteArray) (w : World) : Calls Tryd.prog 30 #[.string s, .string g] w fun e w' => e = .returned (.bool (preB (bytesS s) (bytesS g))) ∧ w' = w := by
  obtain ⟨B, hB⟩ : ∃ B, B = preB (bytesS s) (bytesS g) := ⟨_, rfl⟩
  rw [← hB]
  by_cases h : s.size < g.size
  · rw [pre_short s g h] at hB
    subst hB
    have h' : ¬ (g.size : Int) ≤ (s.size : Int) := by omega
    go_enter Tryd.func30, Tryd.ntmps30
    go_wp2
    go_ret
    exact ⟨rfl, rfl⟩
  · rw [← pre_str] at hB
    have h' : (g.size : Int) ≤ (s.size : Int) := by omega
    have HB : Hid (B = ((s.extract 0 g.size).toList == g.toList)) := hB
    clear hB
    go_enter Tryd.func30, Tryd.ntmps30
    go_wp2
    go_ret
    exact ⟨ret_bool (by rw [HB.out]), rfl⟩
end Go.Proofs.YtdfmehbnhdhbcaaDoor
