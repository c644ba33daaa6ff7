/-
  Conditions (api.Expr) as trees: how many nodes, how deep, their order; plain facts, of no function.
  Conditions as they lie in memory; of no function.
  expr.alone: two nodes without their parts.
-/
import Derived.Test.YtcdehohmgfocdaaTTrees
import Derived.BigQuiet
namespace Go.Proofs.Ytcdehohmgfocdaa
open Go.RowKit

/-- A condition: its kind, value, Var and Field; its parts' slice (where it lies, how many, how much room) and the parts. -/
inductive X where
  | nil : X
  | mk (k : Int) (v : Val) (s f : ByteArray) (a : Option Addr) (n cap : Nat) (c : Nat → X) : X
/-- The first of the first that is not 0. -/
def lexN (f : Nat → Int) : Nat → Int
  | 0 => 0
  | n + 1 => if lexN f n = 0 then f n else lexN f n
def orI (a b : Int) : Int := if a = 0 then b else a
/-- What an order's three answers of three things have to be. -/
def Comp (f g h : Int) : Prop := (f = 0 → g = 0 → h = 0) ∧ (f < 0 → g ≤ 0 → h < 0) ∧ (f ≤ 0 → g < 0 → h < 0)
theorem Comp.or {f g h f' g' h' : Int} (c : Comp f g h) (d : f = 0 → g = 0 → Comp f' g' h') : Comp (orI f f') (orI g g') (orI h h') := by
  obtain ⟨c1, c2, c3⟩ := c
  unfold orI
  by_cases hf : f = 0
  · by_cases hg : g = 0
    · have hh := c1 hf hg
      rw [if_pos hf, if_pos hg, if_pos hh]
      exact d hf hg
    · rw [if_pos hf, if_neg hg]
      refine ⟨fun h1 h2 => absurd h2 hg, fun h1 h2 => ?_, fun h1 h2 => ?_⟩
      · have := c3 (by omega) (by omega); rw [if_neg (by omega)]; exact this
      · have := c3 (by omega) (by omega); rw [if_neg (by omega)]; exact this
  · rw [if_neg hf]
    refine ⟨fun h1 => absurd h1 hf, fun h1 h2 => ?_, fun h1 h2 => ?_⟩
    · have : h < 0 := c2 h1 (by split at h2 <;> omega)
      rw [if_neg (by omega)]; exact this
    · have : h < 0 := c2 (by omega) (by split at h2 <;> omega)
      rw [if_neg (by omega)]; exact this
theorem Comp.lex {f g h : Nat → Int} : ∀ {n : Nat}, (∀ i, i < n → Comp (f i) (g i) (h i)) → Comp (lexN f n) (lexN g n) (lexN h n)
  | 0, _ => ⟨fun _ _ => rfl, fun h => by simp [lexN] at h, fun _ h => by simp [lexN] at h⟩
  | n + 1, c => (Comp.lex fun i hi => c i (by omega)).or fun _ _ => c n (by omega)
theorem cmpI_comp (a b c : Int) : Comp (cmpI a b) (cmpI b c) (cmpI a c) := by
  unfold Comp cmpI
  refine ⟨?_, ?_, ?_⟩ <;> (intro h1 h2; split at h1 <;> split at h2 <;> split <;> (try split at h1) <;> (try split at h2) <;> (try split) <;> omega)
theorem cmpS_zero {s t : ByteArray} (h : cmpS s t = 0) : s = t := by
  rcases cmpS_cases s t with h1 | h1 | h1
  · omega
  · have := h1.2
    rw [ByteArray.toList_eq, ByteArray.toList_eq] at this
    exact ByteArray.ext (Array.ext' this)
  · omega
theorem cmpS_self (s : ByteArray) : cmpS s s = 0 := by
  rcases cmpS_cases s s with h1 | h1 | h1
  · exact absurd rfl h1.2.2
  · exact h1.1
  · exact absurd rfl h1.2.2
theorem cmpS_turn (s t : ByteArray) : cmpS t s = -cmpS s t := by
  rcases cmpS_cases s t with h1 | h1 | h1 <;> rcases cmpS_cases t s with h2 | h2 | h2
  · have := less_trans _ _ _ h1.2.1 h2.2.1; rw [less_irrefl] at this; cases this
  · exact absurd h2.2.symm h1.2.2
  · omega
  · exact absurd h1.2.symm h2.2.2
  · omega
  · exact absurd h1.2.symm h2.2.2
  · omega
  · exact absurd h2.2.symm h1.2.2
  · have := less_trans _ _ _ h1.2.1 h2.2.1; rw [less_irrefl] at this; cases this
theorem cmpS_comp (s t r : ByteArray) : Comp (cmpS s t) (cmpS t r) (cmpS s r) := by
  have key : cmpS s t = -1 → cmpS t r = -1 → cmpS s r = -1 := by
    intro h1 h2
    rcases cmpS_cases s t with a | a | a <;> rcases cmpS_cases t r with b | b | b <;> first | omega | skip
    have := less_trans _ _ _ a.2.1 b.2.1
    rcases cmpS_cases s r with c | c | c
    · exact c.1
    · rw [c.2, less_irrefl] at this; cases this
    · have h3 := less_trans _ _ _ this c.2.1; rw [less_irrefl] at h3; cases h3
  have zl : cmpS s t = 0 → cmpS s r = cmpS t r := fun h => by rw [cmpS_zero h]
  have zr : cmpS t r = 0 → cmpS s r = cmpS s t := fun h => by rw [cmpS_zero h]
  have a := cmpS_cases s t
  have b := cmpS_cases t r
  have a' : cmpS s t = -1 ∨ cmpS s t = 0 ∨ cmpS s t = 1 := by rcases a with h | h | h <;> simp [h.1]
  have b' : cmpS t r = -1 ∨ cmpS t r = 0 ∨ cmpS t r = 1 := by rcases b with h | h | h <;> simp [h.1]
  clear a b
  refine ⟨fun h1 h2 => by rw [zl h1]; exact h2, fun h1 h2 => ?_, fun h1 h2 => ?_⟩
  · by_cases e : cmpS t r = 0
    · rw [zr e]; exact h1
    · have := key (by omega) (by omega); omega
  · by_cases e : cmpS s t = 0
    · rw [zl e]; exact h2
    · have := key (by omega) (by omega); omega
theorem cmpI_turn (a b : Int) : cmpI b a = -cmpI a b := by
  unfold cmpI
  split <;> split <;> (try split) <;> (try split) <;> omega
theorem cmpI_zero {a b : Int} (h : cmpI a b = 0) : a = b := by
  rcases cmpI_cases a b with h1 | h1 | h1 <;> omega
theorem cmpI_self (a : Int) : cmpI a a = 0 := by unfold cmpI; simp
theorem orI_turn {a b a' b' : Int} (h1 : a' = -a) (h2 : a = 0 → b' = -b) : orI a' b' = -orI a b := by
  unfold orI
  by_cases h : a = 0
  · rw [if_pos (by omega), if_pos h]; exact h2 h
  · rw [if_neg (by omega), if_neg h]; exact h1
theorem lexN_turn {f g : Nat → Int} : ∀ {n : Nat}, (∀ i, i < n → g i = -f i) → lexN g n = -lexN f n
  | 0, _ => rfl
  | n + 1, h => by
    show orI (lexN g n) (g n) = -orI (lexN f n) (f n)
    exact orI_turn (lexN_turn fun i hi => h i (by omega)) fun _ => h n (by omega)
theorem orI_zero {a b : Int} : orI a b = 0 ↔ a = 0 ∧ b = 0 := by
  unfold orI
  by_cases h : a = 0
  · simp [h]
  · simp [h]
theorem lexN_zero {f : Nat → Int} : ∀ {n : Nat}, lexN f n = 0 ↔ ∀ i, i < n → f i = 0
  | 0 => by simp [lexN]
  | n + 1 => by
    show orI (lexN f n) (f n) = 0 ↔ _
    rw [orI_zero, lexN_zero]
    constructor
    · rintro ⟨h1, h2⟩ i hi
      by_cases e : i = n
      · exact e ▸ h2
      · exact h1 i (by omega)
    · exact fun h => ⟨fun i hi => h i (by omega), h n (by omega)⟩
end Go.Proofs.Ytcdehohmgfocdaa
namespace Go.Proofs.Ytcdehohmgfocdaa
open Go.RowKit

end Go.Proofs.Ytcdehohmgfocdaa
namespace Go.Proofs.Ytcdehohmgfocdaa
open Go.RowKit

theorem lexN_not {f : Nat → Int} {k : Nat} (h0 : lexN f k = 0) (h : ¬ f k = 0) : ∀ {n : Nat}, k < n → lexN f n = f k
  | 0, hn => by omega
  | n + 1, hn => by
    by_cases e : k = n
    · subst e
      show (if lexN f k = 0 then f k else lexN f k) = f k
      rw [if_pos h0]
    · have := lexN_not h0 h (show k < n by omega)
      show (if lexN f n = 0 then f n else lexN f n) = f k
      rw [this, if_neg h]
set_option maxRecDepth 100000 in
set_option maxHeartbeats 1000000 in
/-- cmp.Or: the first that is not 0. -/
theorem or_any (b n : Nat) (V : Nat → Int) (w : World) (hn : n ≤ 9223372036854775807) (hc : ∀ k, k < n → w.cell? ⟨b, k, none⟩ = some (.int .i64 (V k))) :
    Calls Try.prog 67 #[.slice (some ⟨b, 0, none⟩) n n] w fun e w' => e = .returned (.int .i64 (lexN V n)) ∧ w' = w := by
  obtain ⟨r, hr⟩ : ∃ r, r = lexN V n := ⟨_, rfl⟩
  rw [← hr]
  have HR : Hid (r = lexN V n) := hr
  have HC : Hid (∀ k, k < n → w.cell? ⟨b, k, none⟩ = some (.int .i64 (V k))) := hc
  clear hc hr
  go_enter Try.func67, Try.ntmps67
  go_wp2
  go_loopw [8] (fun u wr => ∃ k : Nat, k ≤ n ∧ u = .int .i64 k ∧ Hid (lexN V k = 0) ∧ wr = w) (fun u _ => n - (intOf u).toNat)
  case atStart => exact ⟨0, Nat.zero_le _, rfl, rfl, rfl⟩
  case round =>
    obtain ⟨k, hk, rfl, H0, rfl⟩ := hrel
    by_cases hkn : k < n
    · have c := HC.out k hkn
      have HK : Hid (k < n) := hkn
      by_cases hv : V k = 0
      · have HV : Hid (V k = 0) := hv
        have hv' : (V k == 0) = true := by simpa using hv
        clear hv
        go_wp2
        go_roundw
        case rel => exact ⟨k + 1, HK.out, by go_num, by show (if lexN V k = 0 then V k else lexN V k) = 0; rw [if_pos H0.out]; exact HV.out, by first | trivial | rfl⟩
        case measure => have := HK.out; simp [intOf]; omega
      · have HV : Hid (¬ V k = 0) := hv
        have hv' : (V k == 0) = false := by simpa using hv
        clear hv
        go_wp2
        try rw [Exit.noGoto_ret]
        go_ret
        exact ⟨ret_int (by rw [HR.out, lexN_not H0.out HV.out HK.out]), rfl⟩
    · obtain rfl : k = n := by omega
      go_wp2
      go_ret
      exact ⟨ret_int (by rw [HR.out, H0.out]), rfl⟩
def five (a b c d e : Int) : Nat → Int
  | 0 => a
  | 1 => b
  | 2 => c
  | 3 => d
  | _ => e
theorem lex_five (a b c d e : Int) : lexN (five a b c d e) 5 = orI a (orI b (orI c (orI d e))) := by
  simp only [lexN, five]
  unfold orI
  by_cases h1 : a = 0 <;> by_cases h2 : b = 0 <;> by_cases h3 : c = 0 <;> by_cases h4 : d = 0 <;> simp [h1, h2, h3, h4]
end Go.Proofs.Ytcdehohmgfocdaa
