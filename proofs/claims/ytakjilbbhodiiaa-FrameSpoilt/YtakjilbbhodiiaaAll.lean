/-
  frame.All, and the document's.
-/
import Derived.Test.YtakjilbbhodiiaaRefOpen
namespace Go.Proofs.Ytakjilbbhodiiaa
open Go.RowKit

theorem infoS : (Try.prog.info? 22).map (fun i => (i.zero, i.size, i.bytes)) = some (some (.slice none 0 0), 1, 24) := by kernel_rfl
/-- A slice of slices of bytes that the call owns, down to the bytes. -/
def Lists (w : World) (B : Nat) (v : Value) (L : List (List Int)) : Prop :=
  ∃ vs : List Value, w.ownsRow B 22 1 v L.length vs ∧ ∀ j, j < L.length → ∃ u, vs[j]? = some u ∧ w.ownsRow B 5 1 u (L[j]?.getD []).length (cellsOf (L[j]?.getD []))
theorem Lists.nil (w : World) (B : Nat) : Lists w B (.slice none 0 0) [] := ⟨[], World.ownsRow_nil _ _ _ _, fun j h => by simp at h⟩
theorem Lists.later {w w' : World} {B : Nat} {v : Value} {L : List (List Int)} (h : Lists w B v L) (hb : Below w.heap.size w w') : Lists w' B v L := by
  obtain ⟨vs, ho, hr⟩ := h
  refine ⟨vs, own_below ho hb, fun j hj => ?_⟩
  obtain ⟨u, e, hu⟩ := hr j hj
  exact ⟨u, e, own_below hu hb⟩
theorem Lists.form {w : World} {B : Nat} {v : Value} {L : List (List Int)} (h : Lists w B v L) : ∃ a cap, v = .slice a L.length cap := by
  obtain ⟨vs, ho, _⟩ := h
  exact own_slice ho
/-- What is behind its index. -/
theorem Lists.get {w : World} {B : Nat} {v : Value} {L : List (List Int)} (h : Lists w B v L) (j : Nat) (hj : j < L.length) :
    ∃ g cap u, v = .slice (some ⟨g, 0, none⟩) L.length cap ∧ L.length ≤ cap ∧ cap ≤ maxLen ∧ w.cell? ⟨g, j, none⟩ = some u ∧ w.ownsRow B 5 1 u (L[j]?.getD []).length (cellsOf (L[j]?.getD [])) := by
  obtain ⟨vs, ho, hr⟩ := h
  obtain ⟨u, e, hu⟩ := hr j hj
  rcases ho.2 with ⟨_, h0⟩ | ⟨g, cap, cur, rfl, _, hg, hle, hm, hsz, ht⟩
  · omega
  · refine ⟨g, cap, u, rfl, hle, hm, ?_, hu⟩
    rw [← ht, List.getElem?_take] at e
    split at e
    · simp at e
      simp [World.cell?, hg, e]
    · cases e
/-- Bytes lie in another block than slices of them. -/
theorem rows_apart {w : World} {B B' n m : Nat} {u v : Value} {xs ys : List Value} (hu : w.ownsRow B 5 1 u n xs) (hv : w.ownsRow B' 22 1 v m ys) : u.ownBlock = none ∨ u.ownBlock ≠ v.ownBlock := by
  rcases hv.2 with ⟨rfl, _⟩ | ⟨g, cap, cur, rfl, _, hg, _⟩
  · cases hb : u.ownBlock with
    | none => exact .inl rfl
    | some k => exact .inr (by simp [Value.ownBlock])
  · exact .inr fun e => own_apart hu hg (by decide) e
/-- One more. -/
theorem Lists.snoc {w : World} {B : Nat} {v u : Value} {L : List (List Int)} {l : List Int} (h : Lists w B v L) (hu : w.ownsRow B 5 1 u l.length (cellsOf l)) (hB : B ≤ w.heap.size) (hn : L.length ≤ 1048576) :
    ∃ v' w', (Builtin.append_ #[37, 37] 37 #[v, .slice (some ⟨w.heap.size, 0, none⟩) 1 1]).run Try.prog (w.alloc (.cells #[u] 22)) = .ok v' w' ∧ Lists w' B v' (L ++ [l]) ∧ Below B w w' := by
  obtain ⟨i0, hi, hz0, hz1, hz2⟩ := info_parts infoS
  obtain ⟨vs, ho, hr⟩ := h
  have hB0 : Below w.heap.size w (w.alloc (.cells #[u] 22)) := (Below.refl _ _).alloc (Nat.le_refl _) _
  obtain ⟨v', w', r, o, g, _⟩ := run_append_own (P := Try.prog) (w.alloc (.cells #[u] 22)) B 37 37 22 i0 (.slice none 0 0) 1 24 Try.underlying37 hi hz0 hz1 hz2 rfl (by omega) v L.length vs (own_below ho hB0) ⟨w.heap.size, 0, none⟩ 1 1 [u] rfl
    (fun j x hj => by
      have hj0 : j = 0 := by
        have := (List.getElem?_eq_some_iff.1 hj).1
        simp at this
        exact this
      subst hj0
      simp at hj
      subst hj
      exact (Boxed.new w 22 u).cell)
    (fun x hx => by
      simp at hx
      subst hx
      obtain ⟨a, c, rfl⟩ := own_slice hu
      rfl) (by unfold maxLen; omega) (by omega) (Nat.le_trans hB hB0.size)
  refine ⟨v', w', r, ⟨vs ++ [u], by simpa using o, fun j hj => ?_⟩, (hB0.mono hB).grown g (Nat.le_trans hB hB0.size) (fun k hk => (ho.lt k hk).1)⟩
  have hvl : vs.length = L.length := by have := ho.1; omega
  have keep : ∀ {x : Value} {y : List Int}, w.ownsRow B 5 1 x y.length (cellsOf y) → w'.ownsRow B 5 1 x y.length (cellsOf y) := fun hx => (own_below hx hB0).kept g (rows_apart (own_below hx hB0) (own_below ho hB0))
  by_cases hjL : j < L.length
  · obtain ⟨x, ex, hx⟩ := hr j hjL
    refine ⟨x, by rw [List.getElem?_append_left (by omega)]; exact ex, ?_⟩
    rw [List.getElem?_append_left hjL]
    exact keep hx
  · simp at hj
    obtain rfl : j = L.length := by omega
    refine ⟨u, by rw [List.getElem?_append_right (by omega), hvl]; simp, ?_⟩
    simp
    exact keep hu

/-- P3.2's answer on all frames: f: how many are looked at, at the most. -/
def allFrom (zs : List Int) : Nat → Int → List (List Int) → List (List Int) × Int × Int
  | 0, p, acc => (acc, p, 0)
  | f + 1, p, acc => if p < (zs.length : Int) then (if (openZ zs p).2.2 ≠ 0 then ([], (openZ zs p).2.1, (openZ zs p).2.2) else allFrom zs f (openZ zs p).2.1 (acc ++ [(openZ zs p).1])) else (acc, p, 0)
def allZ (zs : List Int) : List (List Int) × Int × Int := allFrom zs (zs.length + 1) 0 []
theorem openZ_next (zs : List Int) (p : Int) (h : ∀ j : Nat, 0 ≤ zs[j]?.getD 0 ∧ zs[j]?.getD 0 ≤ 255) (he : (openZ zs p).2.2 = 0) : p + 1 ≤ (openZ zs p).2.1 ∧ (openZ zs p).2.1 ≤ zs.length := by
  have g := getZ_bd zs p h
  have gp : (getZ zs p).2.2 = 0 → 0 ≤ p ∧ p ≤ (getZ zs p).2.1 := fun h => by
    unfold getZ at h ⊢
    split at h
    · simp at h
    · rename_i hp
      rw [if_neg hp]
      dsimp only
      omega
  unfold openZ at he ⊢
  split at he
  · rename_i hE
    dsimp only at he
    omega
  · rename_i hE
    have hE0 : (getZ zs p).2.2 = 0 := by omega
    have := gp hE0
    rw [if_neg hE]
    split at he
    · simp at he
    · rename_i hN
      rw [if_neg hN]
      split at he
      · simp at he
      · rename_i hs
        rw [if_neg hs]
        split at he
        · rename_i hd
          rw [if_pos hd]
          dsimp only
          omega
        · simp at he
set_option maxRecDepth 100000 in
set_option maxHeartbeats 2000000 in
theorem all_any (a : Option Addr) (len cap : Nat) (zs : List Int) (w : World) (hI : IsBytes w a len cap zs) (hl : len ≤ 1048576) :
    Calls Try.prog 17 #[.slice a len cap] w fun e w' => ∃ v, e = .returned (.tuple #[v, .int .i64 (allZ zs).2.1, .int .i64 (allZ zs).2.2]) ∧ Lists w' w.heap.size v (allZ zs).1 ∧ Below w.heap.size w w' := by
  have HI : Hid (IsBytes w a len cap zs) := hI
  have hzl := hI.1
  have hnx := fun p => openZ_next zs p hI.2.2.2.2.1
  have HN : Hid (∀ p, (openZ zs p).2.2 = 0 → p + 1 ≤ (openZ zs p).2.1 ∧ (openZ zs p).2.1 ≤ zs.length) := hnx
  clear hI hnx
  go_enter Try.func17, Try.ntmps17
  go_wp2
  go_loopw [5, 6] (fun v i wr => ∃ (p : Int) (acc : List (List Int)) (f : Nat), i = .int .i64 p ∧ 0 ≤ p ∧ p ≤ len ∧ (acc.length : Int) ≤ p ∧ (len : Int) < f + p ∧ allFrom zs f p acc = allZ zs ∧ Hid (Lists wr w.heap.size v acc) ∧ Below w.heap.size w wr) (fun _ i _ => len - (intOf i).toNat)
  case atStart => exact ⟨0, [], zs.length + 1, rfl, by omega, by omega, by simp, by omega, rfl, Lists.nil _ _, Below.refl _ _⟩
  case round =>
    obtain ⟨p, acc, f, rfl, hp0, hpl, hap, hfp, hall, hL, hB⟩ := hrel
    cases f with
    | zero => omega
    | succ f =>
      rw [allFrom, hzl] at hall
      by_cases hlt : p < (len : Int)
      · rw [if_pos hlt] at hall
        have c := open_any a len cap zs p wr (HI.out.later hB) (by omega)
        have hn := HN.out p
        generalize hO : openZ zs p = O at c hall hn
        obtain ⟨l, k, e⟩ := O
        dsimp only at c hall hn
        have C1 : Hid (Calls Try.prog 15 _ _ _) := c
        clear c hO
        by_cases he : e = 0
        · subst he
          rw [if_neg (by simp)] at hall
          have hk := hn rfl
          go_wp2_with (first
            | (go_at_call 15; refine C1.out.mono ?_; clear C1; rintro e w1 ⟨u1, rfl, ho1, hB1⟩
               have hB2 := hB.trans (hB1.mono hB.size)
               obtain ⟨v3, w3, r3, l3, hB3⟩ := (hL.out.later hB1).snoc (own_le ho1 hB.size) hB2.size (by omega)
               obtain ⟨ua, uc, hu1⟩ := own_slice ho1
               subst hu1)
            | (at_builtin; refine wpList_append_run rfl (.tmp 25) (.tmp 27) 37 rfl _ _ _ rfl rfl r3 ?_))
          go_roundw
          case rel => exact ⟨k, acc ++ [l], f, rfl, by omega, by omega, by simp; omega, by omega, hall, l3, hB2.trans hB3⟩
          case measure => simp [intOf]; omega
        · rw [if_pos he] at hall
          go_wp2_with (first
            | (go_at_call 15; refine C1.out.mono ?_; clear C1; rintro e w1 ⟨u1, rfl, ho1, hB1⟩))
          go_ret3
          rw [← hall]
          exact ⟨_, rfl, Lists.nil _ _, hB.trans (hB1.mono hB.size)⟩
      · rw [if_neg hlt] at hall
        go_wp2
        go_ret3
        rw [← hall]
        exact ⟨_, rfl, hL.out, hB⟩
set_option maxRecDepth 100000 in
set_option maxHeartbeats 2000000 in
theorem refAll_any (a : Option Addr) (len cap : Nat) (zs : List Int) (w : World) (hI : IsBytes w a len cap zs) (hl : len ≤ 1048576) :
    Calls Try.prog 18 #[.slice a len cap] w fun e w' => ∃ v, e = .returned (.tuple #[v, .int .i64 (allZ zs).2.1, .int .i64 (allZ zs).2.2]) ∧ Lists w' w.heap.size v (allZ zs).1 ∧ Below w.heap.size w w' := by
  have HI : Hid (IsBytes w a len cap zs) := hI
  have hzl := hI.1
  have hnx := fun p => openZ_next zs p hI.2.2.2.2.1
  have HN : Hid (∀ p, (openZ zs p).2.2 = 0 → p + 1 ≤ (openZ zs p).2.1 ∧ (openZ zs p).2.1 ≤ zs.length) := hnx
  clear hI hnx
  go_enter Try.func18, Try.ntmps18
  go_wp2
  go_loopw [5, 6] (fun v i wr => ∃ (p : Int) (acc : List (List Int)) (f : Nat), i = .int .i64 p ∧ 0 ≤ p ∧ p ≤ len ∧ (acc.length : Int) ≤ p ∧ (len : Int) < f + p ∧ allFrom zs f p acc = allZ zs ∧ Hid (Lists wr w.heap.size v acc) ∧ Below w.heap.size w wr) (fun _ i _ => len - (intOf i).toNat)
  case atStart => exact ⟨0, [], zs.length + 1, rfl, by omega, by omega, by simp, by omega, rfl, Lists.nil _ _, Below.refl _ _⟩
  case round =>
    obtain ⟨p, acc, f, rfl, hp0, hpl, hap, hfp, hall, hL, hB⟩ := hrel
    cases f with
    | zero => omega
    | succ f =>
      rw [allFrom, hzl] at hall
      by_cases hlt : p < (len : Int)
      · rw [if_pos hlt] at hall
        have c := refOpen_any a len cap zs p wr (HI.out.later hB) (by omega)
        have hn := HN.out p
        generalize hO : openZ zs p = O at c hall hn
        obtain ⟨l, k, e⟩ := O
        dsimp only at c hall hn
        have C1 : Hid (Calls Try.prog 16 _ _ _) := c
        clear c hO
        by_cases he : e = 0
        · subst he
          rw [if_neg (by simp)] at hall
          have hk := hn rfl
          go_wp2_with (first
            | (go_at_call 16; refine C1.out.mono ?_; clear C1; rintro e w1 ⟨u1, rfl, ho1, hB1⟩
               have hB2 := hB.trans (hB1.mono hB.size)
               obtain ⟨v3, w3, r3, l3, hB3⟩ := (hL.out.later hB1).snoc (own_le ho1 hB.size) hB2.size (by omega)
               obtain ⟨ua, uc, hu1⟩ := own_slice ho1
               subst hu1)
            | (at_builtin; refine wpList_append_run rfl (.tmp 25) (.tmp 27) 37 rfl _ _ _ rfl rfl r3 ?_))
          go_roundw
          case rel => exact ⟨k, acc ++ [l], f, rfl, by omega, by omega, by simp; omega, by omega, hall, l3, hB2.trans hB3⟩
          case measure => simp [intOf]; omega
        · rw [if_pos he] at hall
          go_wp2_with (first
            | (go_at_call 16; refine C1.out.mono ?_; clear C1; rintro e w1 ⟨u1, rfl, ho1, hB1⟩))
          go_ret3
          rw [← hall]
          exact ⟨_, rfl, Lists.nil _ _, hB.trans (hB1.mono hB.size)⟩
      · rw [if_neg hlt] at hall
        go_wp2
        go_ret3
        rw [← hall]
        exact ⟨_, rfl, hL.out, hB⟩
end Go.Proofs.Ytakjilbbhodiiaa
