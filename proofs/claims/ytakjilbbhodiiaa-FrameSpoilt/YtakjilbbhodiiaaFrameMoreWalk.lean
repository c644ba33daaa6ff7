/-
  The walk of the law FrameMore: the sum of bytes, and more behind, is that of all.
-/
import Derived.Test.YtakjilbbhodiiaaRefTell
namespace Go.Proofs.Ytakjilbbhodiiaa
open Go.RowKit

theorem bd_append {a b : List Int} (ha : ∀ c ∈ a, 0 ≤ c ∧ c ≤ 255) (hb : ∀ c ∈ b, 0 ≤ c ∧ c ≤ 255) : ∀ c ∈ a ++ b, 0 ≤ c ∧ c ≤ 255 := by
  intro c hc
  rcases List.mem_append.1 hc with h | h
  · exact ha c h
  · exact hb c h
/-- Two slices of bytes, copied one behind the other. -/
theorem both {w : World} {a0 a1 : Option Addr} {len0 cap0 len1 cap1 : Nat} {zs ys : List Int} (hz : IsBytes w a0 len0 cap0 zs) (hy : IsBytes w a1 len1 cap1 ys) (hb : len0 + len1 ≤ 140737488351232) :
    ∃ (v4 v5 : Value) (w4 w5 : World) (a5 : Option Addr) (c5 : Nat),
      (Builtin.append_ #[22, 22] 22 #[.slice (some ⟨w.heap.size, 0, none⟩) 0 0, .slice a0 len0 cap0]).run Try.prog (w.alloc (.cells #[] 5)) = .ok v4 w4 ∧
      (Builtin.append_ #[22, 22] 22 #[v4, .slice a1 len1 cap1]).run Try.prog w4 = .ok v5 w5 ∧ v5 = .slice a5 (len0 + len1) c5 ∧ IsBytes w5 a5 (len0 + len1) c5 (zs ++ ys) ∧ Below w.heap.size w w5 := by
  have hB0 : Below w.heap.size w (w.alloc (.cells #[] 5)) := (Below.refl _ _).alloc (Nat.le_refl _) _
  have hown0 : (w.alloc (.cells #[] 5)).ownsRow w.heap.size 5 1 (.slice (some ⟨w.heap.size, 0, none⟩) 0 0) 0 (cellsOf []) :=
    ⟨rfl, .inr ⟨w.heap.size, 0, #[], rfl, Nat.le_refl _, heap_alloc_new w _, Nat.le_refl _, Nat.zero_le _, rfl, rfl⟩⟩
  obtain ⟨v4, w4, r4, o4, g4⟩ := append_in hown0 (hz.later hB0) (by simp) (by omega)
  simp only [Nat.zero_add, List.nil_append] at o4
  have hB4 : Below w.heap.size w w4 := hB0.grown g4 (by simp) (by intro k hk; simp [Value.ownBlock] at hk; omega)
  obtain ⟨v5, w5, r5, o5, g5⟩ := append_in o4 (hy.later hB4) hB4.size (by omega)
  have hB5 : Below w.heap.size w w5 := hB4.grown g5 hB4.size (fun k hk => (o4.lt k hk).1)
  obtain ⟨a5, c5, e5, h5⟩ := isBytes_own o5 (bd_append (mem_bd hz.2.2.2.2.1) (mem_bd hy.2.2.2.2.1))
  exact ⟨v4, v5, w4, w5, a5, c5, r4, r5, e5, h5, hB5⟩
set_option maxRecDepth 100000 in
set_option maxHeartbeats 1000000 in
theorem more_walk (a0 : Option Addr) (len0 cap0 : Nat) (zs : List Int) (a1 : Option Addr) (len1 cap1 : Nat) (ys : List Int) (w : World) (hz : IsBytes w a0 len0 cap0 zs) (hy : IsBytes w a1 len1 cap1 ys) (b0 : cap0 ≤ 1048576) (b1 : cap1 ≤ 1048576) :
    Calls Try.prog 7 #[.slice a0 len0 cap0, .slice a1 len1 cap1] w fun e w' => e = .returned (.bool true) ∧ Below w.heap.size w w' := by
  have l0 := hz.2.1
  have l1 := hy.2.1
  have hbz := mem_bd hz.2.2.2.2.1
  have hby := mem_bd hy.2.2.2.2.1
  have hs1 := moreN_lt 0 zs (by omega)
  have c1 := sum_any a0 len0 cap0 zs w hz (by omega)
  have C1 : Hid (Calls Try.prog 10 _ _ _) := c1
  have HZ : Hid (IsBytes w a0 len0 cap0 zs) := hz
  have HY : Hid (IsBytes w a1 len1 cap1 ys) := hy
  clear c1 hz hy
  go_enter Try.func7, Try.ntmps7
  go_wp2_with (first
    | (go_at_call 10; refine C1.out.mono ?_; clear C1; rintro e w1 ⟨rfl, hB1⟩)
    | (go_at_call 12; refine (more_any _ a1 len1 cap1 ys _ (HY.out.later hB1) (by omega) hs1).mono ?_; rintro e w2 ⟨rfl, hB2⟩
       obtain ⟨v4, v5, w4, w5, a5, c5, R4, R5, he5, h5, hB5⟩ := both (w := w2) (HZ.out.later (hB1.trans (hB2.mono hB1.size))) (HY.out.later (hB1.trans (hB2.mono hB1.size))) (by omega)
       subst he5
       have C2 := sum_any a5 _ c5 _ _ h5 (by omega)
       rw [moreN_append] at C2)
    | (at_builtin; refine wpList_append_run rfl (.tmp 9) (.tmp 10) 22 rfl _ _ _ rfl rfl R4 ?_)
    | (at_builtin; refine wpList_append_run rfl (.tmp 11) (.tmp 12) 22 rfl _ _ _ rfl rfl R5 ?_)
    | (go_at_call 10; refine C2.mono ?_; clear C2; rintro e w6 ⟨rfl, hB6⟩
       have C3 := sum_any none 0 0 [] w6 (isBytes_nil w6) (by omega)
       rw [moreN_nil] at C3)
    | (go_at_call 10; refine C3.mono ?_; clear C3; rintro e w7 ⟨rfl, hB7⟩)
    | (go_at_call 14; refine (awake_any _).mono ?_; rintro e w8 ⟨rfl, hB8⟩))
  go_ret
  have k2 := hB1.trans (hB2.mono hB1.size)
  have k5 := k2.trans (hB5.mono k2.size)
  have k6 := k5.trans (hB6.mono k5.size)
  have k7 := k6.trans (hB7.mono k6.size)
  exact ⟨rfl, k7.trans (hB8.mono k7.size)⟩
end Go.Proofs.Ytakjilbbhodiiaa
