/-
  The document's kind of right conditions (haruspexref10).
-/
import Derived.Test.YtahlmlbfgijcpaaGreatDoorCTypRef
import Derived.Test.YtahlmlbfgijcpaaGreatDoorCTypMath
import Derived.Test.YtahlmlbfgijcpaaGreatDoorCExprRefN
namespace Go.Proofs.YtahlmlbfgijcpaaGreatDoor
open Go.RowKit

/-- What the document's kind answers of a condition. -/
def RefKindC (pv : Value) (x : X) (K E : Int) (d : World) : Prop :=
  Calls Tryz.prog 25 #[pv, x.val] d fun e w' => e = .returned (.tuple #[.int .i64 K, .int .i64 E]) ∧ Below d.heap.size d w'
set_option maxRecDepth 100000 in
set_option maxHeartbeats 4000000 in
theorem refKind_err (pv : Value) (x : X) (K E : Nat → Int) (i : Nat) (w : World) (hX : IsX w x) (hn : x.n ≤ 1048576) (HK : ∀ i, i < x.n → ∀ d, Below w.heap.size w d → RefKindC pv (x.c i) (K i) (E i) d) (hi : i < x.n) (he : ¬ E i = 0) (h0 : ∀ j, j < i → E j = 0) : RefKindC pv x 0 (E i) w := by
  obtain ⟨A, hA, hB, hs, hn0⟩ := one_box x w
  have HN : Hid (Node A w.heap.size 0 x) := hn0
  obtain ⟨a0, a1, a2, a3, a4, a5, a6⟩ := hn0.at0
  have HB : Hid (Below w.heap.size w A) := hB
  have HX : Hid (IsX A x) := hX.later hB
  have HC : Hid (∀ i, i < x.n → ∀ d, Below A.heap.size A d → RefKindC pv (x.c i) (K i) (E i) d) := fun i hi d hd => HK i hi d (bt hB hd)
  have H0 : Hid (∀ j, j < i → E j = 0) := h0
  have HE : Hid (¬ E i = 0) := he
  clear hB hn0 hX HK h0 he
  unfold RefKindC
  go_enter Tryz.func25, Tryz.ntmps25
  go_wp2
  go_loopw [6, 7] (fun u iv wr => ∃ k : Nat, k ≤ i ∧ iv = .int .i64 k ∧ Hid (wr.ownsRow A.heap.size 3 1 u k (rowI K k)) ∧ Below A.heap.size A wr) (fun _ iv _ => i - (intOf iv).toNat)
  case atStart => exact ⟨0, Nat.zero_le _, rfl, World.ownsRow_nil _ _ _ _, Below.refl _ _⟩
  case round =>
    obtain ⟨k, hk, rfl, HO, hB⟩ := hrel
    obtain ⟨b0, b1, b2, b3', b4, b5, b6⟩ := (HN.out.later hB).at0
    have hkn : k < x.n := by omega
    obtain ⟨b, o, ha, hNN, hx⟩ := (HX.out.later hB).part hkn
    obtain ⟨d0, d1, d2, d3, d4, d5, d6⟩ := hNN
    have C : Hid (∀ d, Below A.heap.size A d → RefKindC pv (x.c k) (K k) (E k) d) := HC.out k hkn
    rw [ha] at b6
    obtain ⟨y, hy⟩ : ∃ y, y = x.c k := ⟨_, rfl⟩
    rw [← hy] at d0 d1 d2 d3 d4 d5 d6 C
    have hnz : k ≤ 2097152 := by omega
    clear ha hx hy
    by_cases hki : k = i
    · subst hki
      have he' : (E k != 0) = true := by simp [HE.out]
      go_wp2_with (first | (go_at_call 25; refine (C.out _ hB).mono ?_; rintro e w2 ⟨rfl, hB2⟩))
      try rw [Exit.noGoto_ret]
      exact bodyPost_ret (v := .tuple #[.int .i64 0, .int .i64 (E k)]) (by simp [results, Tryz.results25, go_sem]) rfl ⟨rfl, bt HB.out (bt hB hB2)⟩
    · have E0 : Hid (E k = 0) := H0.out k (by omega)
      have HX1 : Hid (k + 1 ≤ i) := by show k + 1 ≤ i; omega
      rw [E0.out] at C
      go_wp2_with (first
        | (at_builtin; obtain ⟨v3, w3, r3, o3, b3⟩ := push_int HO2.out hB3.size hnz (K k); refine wpList_append_run rfl (.tmp 32) (.tmp 34) 85 rfl _ _ _ rfl rfl r3 ?_)
        | (go_at_call 25; refine (C.out _ hB).mono ?_; rintro e w2 ⟨rfl, hB2⟩; have HO2 : Hid (w2.ownsRow A.heap.size 3 1 _ k (rowI K k)) := own_still HO.out hB2; have hB3 : Below A.heap.size A w2 := bt hB hB2))
      refine ⟨⟨k + 1, HX1.out, by simp, o3, hB3.trans b3⟩, ?_⟩
      have := HX1.out
      simp [intOf]
      omega
set_option maxRecDepth 100000 in
set_option maxHeartbeats 4000000 in
theorem refKind_const (pv : Value) (x : X) (K E : Nat → Int) (w : World) (hX : IsX w x) (h1 : x.k = 1) (hn : x.n ≤ 1048576) (HK : ∀ i, i < x.n → ∀ d, Below w.heap.size w d → RefKindC pv (x.c i) (K i) (E i) d) (h0 : ∀ j, j < x.n → E j = 0) : RefKindC pv x x.v.k 0 w := by
  obtain ⟨A, hA, hB, hs, hn0⟩ := one_box x w
  have HN : Hid (Node A w.heap.size 0 x) := hn0
  obtain ⟨a0, a1, a2, a3, a4, a5, a6⟩ := hn0.at0
  have HB : Hid (Below w.heap.size w A) := hB
  have h1' : (x.k == 1) = true := by simp [h1]
  have HX : Hid (IsX A x) := hX.later hB
  have HC : Hid (∀ i, i < x.n → ∀ d, Below A.heap.size A d → RefKindC pv (x.c i) (K i) (E i) d) := fun i hi d hd => HK i hi d (bt hB hd)
  have H0 : Hid (∀ j, j < x.n → E j = 0) := h0
  clear hB hn0 hX HK h0 h1
  unfold RefKindC
  go_enter Tryz.func25, Tryz.ntmps25
  go_wp2
  go_loopw [6, 7] (fun u iv wr => ∃ k : Nat, k ≤ x.n ∧ iv = .int .i64 k ∧ Hid (wr.ownsRow A.heap.size 3 1 u k (rowI K k)) ∧ Below A.heap.size A wr) (fun _ iv _ => x.n - (intOf iv).toNat)
  case atStart => exact ⟨0, Nat.zero_le _, rfl, World.ownsRow_nil _ _ _ _, Below.refl _ _⟩
  case round =>
    obtain ⟨k, hk, rfl, HO, hB⟩ := hrel
    obtain ⟨b0, b1, b2, b3', b4, b5, b6⟩ := (HN.out.later hB).at0
    by_cases hkn : k < x.n
    · obtain ⟨b, o, ha, hNN, hx⟩ := (HX.out.later hB).part hkn
      obtain ⟨d0, d1, d2, d3, d4, d5, d6⟩ := hNN
      have C : Hid (∀ d, Below A.heap.size A d → RefKindC pv (x.c k) (K k) (E k) d) := HC.out k hkn
      rw [ha] at b6
      obtain ⟨y, hy⟩ : ∃ y, y = x.c k := ⟨_, rfl⟩
      rw [← hy] at d0 d1 d2 d3 d4 d5 d6 C
      have hnz : k ≤ 2097152 := by omega
      clear ha hx hy
      have E0 : Hid (E k = 0) := H0.out k hkn
      have HX1 : Hid (k + 1 ≤ x.n) := by show k + 1 ≤ x.n; omega
      rw [E0.out] at C
      go_wp2_with (first
        | (at_builtin; obtain ⟨v3, w3, r3, o3, b3⟩ := push_int HO2.out hB3.size hnz (K k); refine wpList_append_run rfl (.tmp 32) (.tmp 34) 85 rfl _ _ _ rfl rfl r3 ?_)
        | (go_at_call 25; refine (C.out _ hB).mono ?_; rintro e w2 ⟨rfl, hB2⟩; have HO2 : Hid (w2.ownsRow A.heap.size 3 1 _ k (rowI K k)) := own_still HO.out hB2; have hB3 : Below A.heap.size A w2 := bt hB hB2))
      refine ⟨⟨k + 1, HX1.out, by simp, o3, hB3.trans b3⟩, ?_⟩
      have := HX1.out
      simp [intOf]
      omega
    · obtain rfl : k = x.n := by omega
      obtain ⟨a9, cap9, rfl, hI, hle⟩ := own_isI HO.out
      have HI : Hid (IsI wr a9 x.n K) := hI
      clear hI HO
      go_wp2
      exact bodyPost_ret (v := .tuple #[.int .i64 x.v.k, .int .i64 0]) (by simp [results, Tryz.results25, go_sem]) rfl ⟨by first | rfl | simp, bt HB.out hB⟩
set_option maxRecDepth 100000 in
set_option maxHeartbeats 4000000 in
theorem refKind_field (pv : Value) (x : X) (K E : Nat → Int) (w : World) (hX : IsX w x) (L : ByteArray → ByteArray → Option Int) (h1 : x.k = 2) (HF : ∀ d, Below w.heap.size w d → RefFieldC pv L d) (hn : x.n ≤ 1048576) (HK : ∀ i, i < x.n → ∀ d, Below w.heap.size w d → RefKindC pv (x.c i) (K i) (E i) d) (h0 : ∀ j, j < x.n → E j = 0) : RefKindC pv x (fldQ (L x.s x.f)) (fldR (L x.s x.f)) w := by
  obtain ⟨A, hA, hB, hs, hn0⟩ := one_box x w
  have HN : Hid (Node A w.heap.size 0 x) := hn0
  obtain ⟨a0, a1, a2, a3, a4, a5, a6⟩ := hn0.at0
  have HB : Hid (Below w.heap.size w A) := hB
  have h1' : (x.k == 1) = false := by simp [h1]
  have h2' : (x.k == 2) = true := by simp [h1]
  have HX : Hid (IsX A x) := hX.later hB
  have HC : Hid (∀ i, i < x.n → ∀ d, Below A.heap.size A d → RefKindC pv (x.c i) (K i) (E i) d) := fun i hi d hd => HK i hi d (bt hB hd)
  have H0 : Hid (∀ j, j < x.n → E j = 0) := h0
  have CF : Hid (∀ d, Below A.heap.size A d → Calls Tryz.prog 43 #[pv, .string x.s, .string x.f] d _) := fun d hd => HF d (bt hB hd) x.s x.f
  clear hB hn0 hX HK h0 h1 HF
  unfold RefKindC
  generalize fldQ (L x.s x.f) = q1 at CF ⊢
  generalize fldR (L x.s x.f) = q2 at CF ⊢
  go_enter Tryz.func25, Tryz.ntmps25
  go_wp2
  go_loopw [6, 7] (fun u iv wr => ∃ k : Nat, k ≤ x.n ∧ iv = .int .i64 k ∧ Hid (wr.ownsRow A.heap.size 3 1 u k (rowI K k)) ∧ Below A.heap.size A wr) (fun _ iv _ => x.n - (intOf iv).toNat)
  case atStart => exact ⟨0, Nat.zero_le _, rfl, World.ownsRow_nil _ _ _ _, Below.refl _ _⟩
  case round =>
    obtain ⟨k, hk, rfl, HO, hB⟩ := hrel
    obtain ⟨b0, b1, b2, b3', b4, b5, b6⟩ := (HN.out.later hB).at0
    by_cases hkn : k < x.n
    · obtain ⟨b, o, ha, hNN, hx⟩ := (HX.out.later hB).part hkn
      obtain ⟨d0, d1, d2, d3, d4, d5, d6⟩ := hNN
      have C : Hid (∀ d, Below A.heap.size A d → RefKindC pv (x.c k) (K k) (E k) d) := HC.out k hkn
      rw [ha] at b6
      obtain ⟨y, hy⟩ : ∃ y, y = x.c k := ⟨_, rfl⟩
      rw [← hy] at d0 d1 d2 d3 d4 d5 d6 C
      have hnz : k ≤ 2097152 := by omega
      clear ha hx hy
      have E0 : Hid (E k = 0) := H0.out k hkn
      have HX1 : Hid (k + 1 ≤ x.n) := by show k + 1 ≤ x.n; omega
      rw [E0.out] at C
      go_wp2_with (first
        | (at_builtin; obtain ⟨v3, w3, r3, o3, b3⟩ := push_int HO2.out hB3.size hnz (K k); refine wpList_append_run rfl (.tmp 32) (.tmp 34) 85 rfl _ _ _ rfl rfl r3 ?_)
        | (go_at_call 25; refine (C.out _ hB).mono ?_; rintro e w2 ⟨rfl, hB2⟩; have HO2 : Hid (w2.ownsRow A.heap.size 3 1 _ k (rowI K k)) := own_still HO.out hB2; have hB3 : Below A.heap.size A w2 := bt hB hB2))
      refine ⟨⟨k + 1, HX1.out, by simp, o3, hB3.trans b3⟩, ?_⟩
      have := HX1.out
      simp [intOf]
      omega
    · obtain rfl : k = x.n := by omega
      obtain ⟨a9, cap9, rfl, hI, hle⟩ := own_isI HO.out
      have HI : Hid (IsI wr a9 x.n K) := hI
      clear hI HO
      go_wp2_with (first | (go_at_call 43; refine (CF.out _ hB).mono ?_; rintro e w5 ⟨rfl, hB5⟩))
      exact bodyPost_ret (v := .tuple #[.int .i64 q1, .int .i64 q2]) (by simp [results, Tryz.results25, go_sem]) rfl ⟨by first | rfl | simp, bt HB.out (bt hB hB5)⟩
set_option maxRecDepth 100000 in
set_option maxHeartbeats 4000000 in
theorem refKind_A (pv : Value) (x : X) (K E : Nat → Int) (w : World) (hX : IsX w x) (h3 : 3 ≤ x.k) (h8 : x.k ≤ 8) (hn : x.n ≤ 1048576) (HK : ∀ i, i < x.n → ∀ d, Below w.heap.size w d → RefKindC pv (x.c i) (K i) (E i) d) (h0 : ∀ j, j < x.n → E j = 0) : RefKindC pv x (if allB K 2 x.n = true then 2 else 0) (if allB K 2 x.n = true then 0 else 5) w := by
  obtain ⟨A, hA, hB, hs, hn0⟩ := one_box x w
  have HN : Hid (Node A w.heap.size 0 x) := hn0
  obtain ⟨a0, a1, a2, a3, a4, a5, a6⟩ := hn0.at0
  have HB : Hid (Below w.heap.size w A) := hB
  have h1' : (x.k == 1) = false := by simp; omega
  have h2' : (x.k == 2) = false := by simp; omega
  have HX : Hid (IsX A x) := hX.later hB
  have HC : Hid (∀ i, i < x.n → ∀ d, Below A.heap.size A d → RefKindC pv (x.c i) (K i) (E i) d) := fun i hi d hd => HK i hi d (bt hB hd)
  have H0 : Hid (∀ j, j < x.n → E j = 0) := h0
  have M2 : Hid (∀ (a : Option Addr) (cap : Nat) (d : World), IsI d a x.n K → Calls Tryz.prog 44 #[.slice a x.n cap, .int .i64 2] d _) := fun a cap d h => refAll_any a x.n cap K 2 d h hn
  clear hB hn0 hX HK h0
  unfold RefKindC
  generalize allB K 2 x.n = q at M2 ⊢
  go_enter Tryz.func25, Tryz.ntmps25
  go_wp2
  go_loopw [6, 7] (fun u iv wr => ∃ k : Nat, k ≤ x.n ∧ iv = .int .i64 k ∧ Hid (wr.ownsRow A.heap.size 3 1 u k (rowI K k)) ∧ Below A.heap.size A wr) (fun _ iv _ => x.n - (intOf iv).toNat)
  case atStart => exact ⟨0, Nat.zero_le _, rfl, World.ownsRow_nil _ _ _ _, Below.refl _ _⟩
  case round =>
    obtain ⟨k, hk, rfl, HO, hB⟩ := hrel
    obtain ⟨b0, b1, b2, b3', b4, b5, b6⟩ := (HN.out.later hB).at0
    by_cases hkn : k < x.n
    · obtain ⟨b, o, ha, hNN, hx⟩ := (HX.out.later hB).part hkn
      obtain ⟨d0, d1, d2, d3, d4, d5, d6⟩ := hNN
      have C : Hid (∀ d, Below A.heap.size A d → RefKindC pv (x.c k) (K k) (E k) d) := HC.out k hkn
      rw [ha] at b6
      obtain ⟨y, hy⟩ : ∃ y, y = x.c k := ⟨_, rfl⟩
      rw [← hy] at d0 d1 d2 d3 d4 d5 d6 C
      have hnz : k ≤ 2097152 := by omega
      clear ha hx hy
      have E0 : Hid (E k = 0) := H0.out k hkn
      have HX1 : Hid (k + 1 ≤ x.n) := by show k + 1 ≤ x.n; omega
      rw [E0.out] at C
      go_wp2_with (first
        | (at_builtin; obtain ⟨v3, w3, r3, o3, b3⟩ := push_int HO2.out hB3.size hnz (K k); refine wpList_append_run rfl (.tmp 32) (.tmp 34) 85 rfl _ _ _ rfl rfl r3 ?_)
        | (go_at_call 25; refine (C.out _ hB).mono ?_; rintro e w2 ⟨rfl, hB2⟩; have HO2 : Hid (w2.ownsRow A.heap.size 3 1 _ k (rowI K k)) := own_still HO.out hB2; have hB3 : Below A.heap.size A w2 := bt hB hB2))
      refine ⟨⟨k + 1, HX1.out, by simp, o3, hB3.trans b3⟩, ?_⟩
      have := HX1.out
      simp [intOf]
      omega
    · obtain rfl : k = x.n := by omega
      obtain ⟨a9, cap9, rfl, hI, hle⟩ := own_isI HO.out
      have HI : Hid (IsI wr a9 x.n K) := hI
      clear hI HO
      cases q
      · go_wp2_with (first | (go_at_call 44; refine (M2.out _ _ _ HI.out).mono ?_; rintro e w5 ⟨rfl, hB5⟩))
        exact bodyPost_ret (v := .tuple #[.int .i64 0, .int .i64 5]) (by simp [results, Tryz.results25, go_sem]) rfl ⟨by first | rfl | simp, bt HB.out (bt hB hB5)⟩
      · go_wp2_with (first | (go_at_call 44; refine (M2.out _ _ _ HI.out).mono ?_; rintro e w5 ⟨rfl, hB5⟩))
        exact bodyPost_ret (v := .tuple #[.int .i64 2, .int .i64 0]) (by simp [results, Tryz.results25, go_sem]) rfl ⟨by first | rfl | simp, bt HB.out (bt hB hB5)⟩
set_option maxRecDepth 100000 in
set_option maxHeartbeats 4000000 in
theorem refKind_D (pv : Value) (x : X) (K E : Nat → Int) (w : World) (hX : IsX w x) (h15 : 15 ≤ x.k) (hn : x.n ≤ 1048576) (HK : ∀ i, i < x.n → ∀ d, Below w.heap.size w d → RefKindC pv (x.c i) (K i) (E i) d) (h0 : ∀ j, j < x.n → E j = 0) : RefKindC pv x (if allB K 1 x.n = true then 1 else 0) (if allB K 1 x.n = true then 0 else 5) w := by
  obtain ⟨A, hA, hB, hs, hn0⟩ := one_box x w
  have HN : Hid (Node A w.heap.size 0 x) := hn0
  obtain ⟨a0, a1, a2, a3, a4, a5, a6⟩ := hn0.at0
  have HB : Hid (Below w.heap.size w A) := hB
  have h1' : (x.k == 1) = false := by simp; omega
  have h2' : (x.k == 2) = false := by simp; omega
  have h3' : (3 : Int) ≤ x.k := by omega
  have h8' : ¬ x.k ≤ 8 := by omega
  have h9' : (x.k == 9) = false := by simp; omega
  have h10' : (x.k == 10) = false := by simp; omega
  have h11' : (11 : Int) ≤ x.k := by omega
  have h14' : ¬ x.k ≤ 14 := by omega
  have HX : Hid (IsX A x) := hX.later hB
  have HC : Hid (∀ i, i < x.n → ∀ d, Below A.heap.size A d → RefKindC pv (x.c i) (K i) (E i) d) := fun i hi d hd => HK i hi d (bt hB hd)
  have H0 : Hid (∀ j, j < x.n → E j = 0) := h0
  have M1 : Hid (∀ (a : Option Addr) (cap : Nat) (d : World), IsI d a x.n K → Calls Tryz.prog 44 #[.slice a x.n cap, .int .i64 1] d _) := fun a cap d h => refAll_any a x.n cap K 1 d h hn
  clear hB hn0 hX HK h0
  unfold RefKindC
  generalize allB K 1 x.n = q at M1 ⊢
  go_enter Tryz.func25, Tryz.ntmps25
  go_wp2
  go_loopw [6, 7] (fun u iv wr => ∃ k : Nat, k ≤ x.n ∧ iv = .int .i64 k ∧ Hid (wr.ownsRow A.heap.size 3 1 u k (rowI K k)) ∧ Below A.heap.size A wr) (fun _ iv _ => x.n - (intOf iv).toNat)
  case atStart => exact ⟨0, Nat.zero_le _, rfl, World.ownsRow_nil _ _ _ _, Below.refl _ _⟩
  case round =>
    obtain ⟨k, hk, rfl, HO, hB⟩ := hrel
    obtain ⟨b0, b1, b2, b3', b4, b5, b6⟩ := (HN.out.later hB).at0
    by_cases hkn : k < x.n
    · obtain ⟨b, o, ha, hNN, hx⟩ := (HX.out.later hB).part hkn
      obtain ⟨d0, d1, d2, d3, d4, d5, d6⟩ := hNN
      have C : Hid (∀ d, Below A.heap.size A d → RefKindC pv (x.c k) (K k) (E k) d) := HC.out k hkn
      rw [ha] at b6
      obtain ⟨y, hy⟩ : ∃ y, y = x.c k := ⟨_, rfl⟩
      rw [← hy] at d0 d1 d2 d3 d4 d5 d6 C
      have hnz : k ≤ 2097152 := by omega
      clear ha hx hy
      have E0 : Hid (E k = 0) := H0.out k hkn
      have HX1 : Hid (k + 1 ≤ x.n) := by show k + 1 ≤ x.n; omega
      rw [E0.out] at C
      go_wp2_with (first
        | (at_builtin; obtain ⟨v3, w3, r3, o3, b3⟩ := push_int HO2.out hB3.size hnz (K k); refine wpList_append_run rfl (.tmp 32) (.tmp 34) 85 rfl _ _ _ rfl rfl r3 ?_)
        | (go_at_call 25; refine (C.out _ hB).mono ?_; rintro e w2 ⟨rfl, hB2⟩; have HO2 : Hid (w2.ownsRow A.heap.size 3 1 _ k (rowI K k)) := own_still HO.out hB2; have hB3 : Below A.heap.size A w2 := bt hB hB2))
      refine ⟨⟨k + 1, HX1.out, by simp, o3, hB3.trans b3⟩, ?_⟩
      have := HX1.out
      simp [intOf]
      omega
    · obtain rfl : k = x.n := by omega
      obtain ⟨a9, cap9, rfl, hI, hle⟩ := own_isI HO.out
      have HI : Hid (IsI wr a9 x.n K) := hI
      clear hI HO
      cases q
      · go_wp2_with (first | (go_at_call 44; refine (M1.out _ _ _ HI.out).mono ?_; rintro e w5 ⟨rfl, hB5⟩))
        exact bodyPost_ret (v := .tuple #[.int .i64 0, .int .i64 5]) (by simp [results, Tryz.results25, go_sem]) rfl ⟨by first | rfl | simp, bt HB.out (bt hB hB5)⟩
      · go_wp2_with (first | (go_at_call 44; refine (M1.out _ _ _ HI.out).mono ?_; rintro e w5 ⟨rfl, hB5⟩))
        exact bodyPost_ret (v := .tuple #[.int .i64 1, .int .i64 0]) (by simp [results, Tryz.results25, go_sem]) rfl ⟨by first | rfl | simp, bt HB.out (bt hB hB5)⟩
set_option maxRecDepth 100000 in
set_option maxHeartbeats 4000000 in
theorem refKind_C (pv : Value) (x : X) (K E : Nat → Int) (w : World) (hX : IsX w x) (h11 : 11 ≤ x.k) (h14 : x.k ≤ 14) (hn : x.n ≤ 1048576) (HK : ∀ i, i < x.n → ∀ d, Below w.heap.size w d → RefKindC pv (x.c i) (K i) (E i) d) (h0 : ∀ j, j < x.n → E j = 0) : RefKindC pv x (if (allB K 2 x.n || allB K 3 x.n) = true then 1 else 0) (if (allB K 2 x.n || allB K 3 x.n) = true then 0 else 5) w := by
  obtain ⟨A, hA, hB, hs, hn0⟩ := one_box x w
  have HN : Hid (Node A w.heap.size 0 x) := hn0
  obtain ⟨a0, a1, a2, a3, a4, a5, a6⟩ := hn0.at0
  have HB : Hid (Below w.heap.size w A) := hB
  have h1' : (x.k == 1) = false := by simp; omega
  have h2' : (x.k == 2) = false := by simp; omega
  have h3' : (3 : Int) ≤ x.k := by omega
  have h8' : ¬ x.k ≤ 8 := by omega
  have h9' : (x.k == 9) = false := by simp; omega
  have h10' : (x.k == 10) = false := by simp; omega
  have HX : Hid (IsX A x) := hX.later hB
  have HC : Hid (∀ i, i < x.n → ∀ d, Below A.heap.size A d → RefKindC pv (x.c i) (K i) (E i) d) := fun i hi d hd => HK i hi d (bt hB hd)
  have H0 : Hid (∀ j, j < x.n → E j = 0) := h0
  have M2 : Hid (∀ (a : Option Addr) (cap : Nat) (d : World), IsI d a x.n K → Calls Tryz.prog 44 #[.slice a x.n cap, .int .i64 2] d _) := fun a cap d h => refAll_any a x.n cap K 2 d h hn
  have M3 : Hid (∀ (a : Option Addr) (cap : Nat) (d : World), IsI d a x.n K → Calls Tryz.prog 44 #[.slice a x.n cap, .int .i64 3] d _) := fun a cap d h => refAll_any a x.n cap K 3 d h hn
  clear hB hn0 hX HK h0
  unfold RefKindC
  generalize allB K 2 x.n = q at M2 ⊢
  generalize allB K 3 x.n = s at M3 ⊢
  go_enter Tryz.func25, Tryz.ntmps25
  go_wp2
  go_loopw [6, 7] (fun u iv wr => ∃ k : Nat, k ≤ x.n ∧ iv = .int .i64 k ∧ Hid (wr.ownsRow A.heap.size 3 1 u k (rowI K k)) ∧ Below A.heap.size A wr) (fun _ iv _ => x.n - (intOf iv).toNat)
  case atStart => exact ⟨0, Nat.zero_le _, rfl, World.ownsRow_nil _ _ _ _, Below.refl _ _⟩
  case round =>
    obtain ⟨k, hk, rfl, HO, hB⟩ := hrel
    obtain ⟨b0, b1, b2, b3', b4, b5, b6⟩ := (HN.out.later hB).at0
    by_cases hkn : k < x.n
    · obtain ⟨b, o, ha, hNN, hx⟩ := (HX.out.later hB).part hkn
      obtain ⟨d0, d1, d2, d3, d4, d5, d6⟩ := hNN
      have C : Hid (∀ d, Below A.heap.size A d → RefKindC pv (x.c k) (K k) (E k) d) := HC.out k hkn
      rw [ha] at b6
      obtain ⟨y, hy⟩ : ∃ y, y = x.c k := ⟨_, rfl⟩
      rw [← hy] at d0 d1 d2 d3 d4 d5 d6 C
      have hnz : k ≤ 2097152 := by omega
      clear ha hx hy
      have E0 : Hid (E k = 0) := H0.out k hkn
      have HX1 : Hid (k + 1 ≤ x.n) := by show k + 1 ≤ x.n; omega
      rw [E0.out] at C
      go_wp2_with (first
        | (at_builtin; obtain ⟨v3, w3, r3, o3, b3⟩ := push_int HO2.out hB3.size hnz (K k); refine wpList_append_run rfl (.tmp 32) (.tmp 34) 85 rfl _ _ _ rfl rfl r3 ?_)
        | (go_at_call 25; refine (C.out _ hB).mono ?_; rintro e w2 ⟨rfl, hB2⟩; have HO2 : Hid (w2.ownsRow A.heap.size 3 1 _ k (rowI K k)) := own_still HO.out hB2; have hB3 : Below A.heap.size A w2 := bt hB hB2))
      refine ⟨⟨k + 1, HX1.out, by simp, o3, hB3.trans b3⟩, ?_⟩
      have := HX1.out
      simp [intOf]
      omega
    · obtain rfl : k = x.n := by omega
      obtain ⟨a9, cap9, rfl, hI, hle⟩ := own_isI HO.out
      have HI : Hid (IsI wr a9 x.n K) := hI
      clear hI HO
      cases q
      · cases s
        · go_wp2_with (first | (go_at_call 44; refine (M3.out _ _ _ (HI.out.later hB5)).mono ?_; rintro e w6 ⟨rfl, hB6⟩) | (go_at_call 44; refine (M2.out _ _ _ HI.out).mono ?_; rintro e w5 ⟨rfl, hB5⟩))
          exact bodyPost_ret (v := .tuple #[.int .i64 0, .int .i64 5]) (by simp [results, Tryz.results25, go_sem]) rfl ⟨by first | rfl | simp, bt HB.out (bt hB (bt hB5 hB6))⟩
        · go_wp2_with (first | (go_at_call 44; refine (M3.out _ _ _ (HI.out.later hB5)).mono ?_; rintro e w6 ⟨rfl, hB6⟩) | (go_at_call 44; refine (M2.out _ _ _ HI.out).mono ?_; rintro e w5 ⟨rfl, hB5⟩))
          exact bodyPost_ret (v := .tuple #[.int .i64 1, .int .i64 0]) (by simp [results, Tryz.results25, go_sem]) rfl ⟨by first | rfl | simp, bt HB.out (bt hB (bt hB5 hB6))⟩
      · go_wp2_with (first | (go_at_call 44; refine (M2.out _ _ _ HI.out).mono ?_; rintro e w5 ⟨rfl, hB5⟩))
        exact bodyPost_ret (v := .tuple #[.int .i64 1, .int .i64 0]) (by simp [results, Tryz.results25, go_sem]) rfl ⟨by first | rfl | simp, bt HB.out (bt hB hB5)⟩
set_option maxRecDepth 100000 in
set_option maxHeartbeats 4000000 in
theorem refKind_B9 (pv : Value) (x : X) (K E : Nat → Int) (w : World) (hX : IsX w x) (hk : x.k = 9) (h2n : x.n = 2) (hn : x.n ≤ 1048576) (HK : ∀ i, i < x.n → ∀ d, Below w.heap.size w d → RefKindC pv (x.c i) (K i) (E i) d) (h0 : ∀ j, j < x.n → E j = 0) : RefKindC pv x (if (decide (K 0 = K 1) || (decide (K 0 = 0) || decide (K 1 = 0))) = true then 1 else 0) (if (decide (K 0 = K 1) || (decide (K 0 = 0) || decide (K 1 = 0))) = true then 0 else 5) w := by
  obtain ⟨A, hA, hB, hs, hn0⟩ := one_box x w
  have HN : Hid (Node A w.heap.size 0 x) := hn0
  obtain ⟨a0, a1, a2, a3, a4, a5, a6⟩ := hn0.at0
  have HB : Hid (Below w.heap.size w A) := hB
  have h1' : (x.k == 1) = false := by simp; omega
  have h2' : (x.k == 2) = false := by simp; omega
  have h3' : (3 : Int) ≤ x.k := by omega
  have h8' : ¬ x.k ≤ 8 := by omega
  have h9' : (x.k == 9) = true := by simp [hk]
  have HX : Hid (IsX A x) := hX.later hB
  have HC : Hid (∀ i, i < x.n → ∀ d, Below A.heap.size A d → RefKindC pv (x.c i) (K i) (E i) d) := fun i hi d hd => HK i hi d (bt hB hd)
  have H0 : Hid (∀ j, j < x.n → E j = 0) := h0
  clear hB hn0 hX HK h0 hk
  unfold RefKindC
  obtain ⟨r1, hr1⟩ : ∃ r : Int, r = (if (decide (K 0 = K 1) || (decide (K 0 = 0) || decide (K 1 = 0))) = true then 1 else 0) := ⟨_, rfl⟩
  obtain ⟨r2, hr2⟩ : ∃ r : Int, r = (if (decide (K 0 = K 1) || (decide (K 0 = 0) || decide (K 1 = 0))) = true then 0 else 5) := ⟨_, rfl⟩
  rw [← hr1, ← hr2]
  have HR1 : Hid (r1 = _) := hr1
  have HR2 : Hid (r2 = _) := hr2
  have HN2 : Hid (x.n = 2) := h2n
  clear hr1 hr2 h2n
  go_enter Tryz.func25, Tryz.ntmps25
  go_wp2
  go_loopw [6, 7] (fun u iv wr => ∃ k : Nat, k ≤ x.n ∧ iv = .int .i64 k ∧ Hid (wr.ownsRow A.heap.size 3 1 u k (rowI K k)) ∧ Below A.heap.size A wr) (fun _ iv _ => x.n - (intOf iv).toNat)
  case atStart => exact ⟨0, Nat.zero_le _, rfl, World.ownsRow_nil _ _ _ _, Below.refl _ _⟩
  case round =>
    obtain ⟨k, hk, rfl, HO, hB⟩ := hrel
    obtain ⟨b0, b1, b2, b3', b4, b5, b6⟩ := (HN.out.later hB).at0
    by_cases hkn : k < x.n
    · obtain ⟨b, o, ha, hNN, hx⟩ := (HX.out.later hB).part hkn
      obtain ⟨d0, d1, d2, d3, d4, d5, d6⟩ := hNN
      have C : Hid (∀ d, Below A.heap.size A d → RefKindC pv (x.c k) (K k) (E k) d) := HC.out k hkn
      rw [ha] at b6
      obtain ⟨y, hy⟩ : ∃ y, y = x.c k := ⟨_, rfl⟩
      rw [← hy] at d0 d1 d2 d3 d4 d5 d6 C
      have hnz : k ≤ 2097152 := by omega
      clear ha hx hy
      have E0 : Hid (E k = 0) := H0.out k hkn
      have HX1 : Hid (k + 1 ≤ x.n) := by show k + 1 ≤ x.n; omega
      rw [E0.out] at C
      go_wp2_with (first
        | (at_builtin; obtain ⟨v3, w3, r3, o3, b3⟩ := push_int HO2.out hB3.size hnz (K k); refine wpList_append_run rfl (.tmp 32) (.tmp 34) 85 rfl _ _ _ rfl rfl r3 ?_)
        | (go_at_call 25; refine (C.out _ hB).mono ?_; rintro e w2 ⟨rfl, hB2⟩; have HO2 : Hid (w2.ownsRow A.heap.size 3 1 _ k (rowI K k)) := own_still HO.out hB2; have hB3 : Below A.heap.size A w2 := bt hB hB2))
      refine ⟨⟨k + 1, HX1.out, by simp, o3, hB3.trans b3⟩, ?_⟩
      have := HX1.out
      simp [intOf]
      omega
    · obtain rfl : k = x.n := by omega
      obtain ⟨a9, cap9, rfl, hI, hle⟩ := own_isI HO.out
      have HI : Hid (IsI wr a9 x.n K) := hI
      clear hI HO
      obtain ⟨b9, o9, rfl, hc9⟩ := HI.out (by rw [HN2.out]; omega)
      have e0 := hc9 0 (by rw [HN2.out]; omega)
      have e1 := hc9 1 (by rw [HN2.out]; omega)
      rw [Nat.add_zero] at e0
      clear hc9
      have hn2 : (1 : Int) < (x.n : Int) := by rw [HN2.out]; omega
      have hn1 : (0 : Int) < (x.n : Int) := by rw [HN2.out]; omega
      obtain ⟨k0, hk0⟩ : ∃ k0, k0 = K 0 := ⟨_, rfl⟩
      obtain ⟨k1, hk1⟩ : ∃ k1, k1 = K 1 := ⟨_, rfl⟩
      rw [← hk0] at e0 HR1 HR2
      rw [← hk1] at e1 HR1 HR2
      clear hk0 hk1
      by_cases q0 : k0 = k1
      · subst q0
        go_wp2
        go_quiet (fail)
        go_wp2
        exact bodyPost_ret (v := .tuple #[.int .i64 1, .int .i64 0]) (by simp [results, Tryz.results25, go_sem]) rfl ⟨by rw [HR1.out, HR2.out]; simp [], bt HB.out (bt hB (bd (Below.refl _ _) _))⟩
      · have q0' : (k0 == k1) = false := by simp [q0]
        by_cases q1 : k0 = 0
        · subst q1
          go_wp2
          go_quiet (fail)
          go_wp2
          exact bodyPost_ret (v := .tuple #[.int .i64 1, .int .i64 0]) (by simp [results, Tryz.results25, go_sem]) rfl ⟨by rw [HR1.out, HR2.out]; simp [], bt HB.out (bt hB (bd (Below.refl _ _) _))⟩
        · have q1' : (k0 == 0) = false := by simp [q1]
          by_cases q2 : k1 = 0
          · subst q2
            go_wp2
            go_quiet (fail)
            go_wp2
            exact bodyPost_ret (v := .tuple #[.int .i64 1, .int .i64 0]) (by simp [results, Tryz.results25, go_sem]) rfl ⟨by rw [HR1.out, HR2.out]; simp [], bt HB.out (bt hB (bd (Below.refl _ _) _))⟩
          · have q2' : (k1 == 0) = false := by simp [q2]
            go_wp2
            go_quiet (fail)
            go_wp2
            exact bodyPost_ret (v := .tuple #[.int .i64 0, .int .i64 5]) (by simp [results, Tryz.results25, go_sem]) rfl ⟨by rw [HR1.out, HR2.out]; simp [q0, q1, q2], bt HB.out (bt hB (bd (Below.refl _ _) _))⟩
set_option maxRecDepth 100000 in
set_option maxHeartbeats 4000000 in
theorem refKind_B10 (pv : Value) (x : X) (K E : Nat → Int) (w : World) (hX : IsX w x) (hk : x.k = 10) (h2n : x.n = 2) (hn : x.n ≤ 1048576) (HK : ∀ i, i < x.n → ∀ d, Below w.heap.size w d → RefKindC pv (x.c i) (K i) (E i) d) (h0 : ∀ j, j < x.n → E j = 0) : RefKindC pv x (if (decide (K 0 = K 1) || (decide (K 0 = 0) || decide (K 1 = 0))) = true then 1 else 0) (if (decide (K 0 = K 1) || (decide (K 0 = 0) || decide (K 1 = 0))) = true then 0 else 5) w := by
  obtain ⟨A, hA, hB, hs, hn0⟩ := one_box x w
  have HN : Hid (Node A w.heap.size 0 x) := hn0
  obtain ⟨a0, a1, a2, a3, a4, a5, a6⟩ := hn0.at0
  have HB : Hid (Below w.heap.size w A) := hB
  have h1' : (x.k == 1) = false := by simp; omega
  have h2' : (x.k == 2) = false := by simp; omega
  have h3' : (3 : Int) ≤ x.k := by omega
  have h8' : ¬ x.k ≤ 8 := by omega
  have h9' : (x.k == 9) = false := by simp [hk]
  have h10' : (x.k == 10) = true := by simp [hk]
  have HX : Hid (IsX A x) := hX.later hB
  have HC : Hid (∀ i, i < x.n → ∀ d, Below A.heap.size A d → RefKindC pv (x.c i) (K i) (E i) d) := fun i hi d hd => HK i hi d (bt hB hd)
  have H0 : Hid (∀ j, j < x.n → E j = 0) := h0
  clear hB hn0 hX HK h0 hk
  unfold RefKindC
  obtain ⟨r1, hr1⟩ : ∃ r : Int, r = (if (decide (K 0 = K 1) || (decide (K 0 = 0) || decide (K 1 = 0))) = true then 1 else 0) := ⟨_, rfl⟩
  obtain ⟨r2, hr2⟩ : ∃ r : Int, r = (if (decide (K 0 = K 1) || (decide (K 0 = 0) || decide (K 1 = 0))) = true then 0 else 5) := ⟨_, rfl⟩
  rw [← hr1, ← hr2]
  have HR1 : Hid (r1 = _) := hr1
  have HR2 : Hid (r2 = _) := hr2
  have HN2 : Hid (x.n = 2) := h2n
  clear hr1 hr2 h2n
  go_enter Tryz.func25, Tryz.ntmps25
  go_wp2
  go_loopw [6, 7] (fun u iv wr => ∃ k : Nat, k ≤ x.n ∧ iv = .int .i64 k ∧ Hid (wr.ownsRow A.heap.size 3 1 u k (rowI K k)) ∧ Below A.heap.size A wr) (fun _ iv _ => x.n - (intOf iv).toNat)
  case atStart => exact ⟨0, Nat.zero_le _, rfl, World.ownsRow_nil _ _ _ _, Below.refl _ _⟩
  case round =>
    obtain ⟨k, hk, rfl, HO, hB⟩ := hrel
    obtain ⟨b0, b1, b2, b3', b4, b5, b6⟩ := (HN.out.later hB).at0
    by_cases hkn : k < x.n
    · obtain ⟨b, o, ha, hNN, hx⟩ := (HX.out.later hB).part hkn
      obtain ⟨d0, d1, d2, d3, d4, d5, d6⟩ := hNN
      have C : Hid (∀ d, Below A.heap.size A d → RefKindC pv (x.c k) (K k) (E k) d) := HC.out k hkn
      rw [ha] at b6
      obtain ⟨y, hy⟩ : ∃ y, y = x.c k := ⟨_, rfl⟩
      rw [← hy] at d0 d1 d2 d3 d4 d5 d6 C
      have hnz : k ≤ 2097152 := by omega
      clear ha hx hy
      have E0 : Hid (E k = 0) := H0.out k hkn
      have HX1 : Hid (k + 1 ≤ x.n) := by show k + 1 ≤ x.n; omega
      rw [E0.out] at C
      go_wp2_with (first
        | (at_builtin; obtain ⟨v3, w3, r3, o3, b3⟩ := push_int HO2.out hB3.size hnz (K k); refine wpList_append_run rfl (.tmp 32) (.tmp 34) 85 rfl _ _ _ rfl rfl r3 ?_)
        | (go_at_call 25; refine (C.out _ hB).mono ?_; rintro e w2 ⟨rfl, hB2⟩; have HO2 : Hid (w2.ownsRow A.heap.size 3 1 _ k (rowI K k)) := own_still HO.out hB2; have hB3 : Below A.heap.size A w2 := bt hB hB2))
      refine ⟨⟨k + 1, HX1.out, by simp, o3, hB3.trans b3⟩, ?_⟩
      have := HX1.out
      simp [intOf]
      omega
    · obtain rfl : k = x.n := by omega
      obtain ⟨a9, cap9, rfl, hI, hle⟩ := own_isI HO.out
      have HI : Hid (IsI wr a9 x.n K) := hI
      clear hI HO
      obtain ⟨b9, o9, rfl, hc9⟩ := HI.out (by rw [HN2.out]; omega)
      have e0 := hc9 0 (by rw [HN2.out]; omega)
      have e1 := hc9 1 (by rw [HN2.out]; omega)
      rw [Nat.add_zero] at e0
      clear hc9
      have hn2 : (1 : Int) < (x.n : Int) := by rw [HN2.out]; omega
      have hn1 : (0 : Int) < (x.n : Int) := by rw [HN2.out]; omega
      obtain ⟨k0, hk0⟩ : ∃ k0, k0 = K 0 := ⟨_, rfl⟩
      obtain ⟨k1, hk1⟩ : ∃ k1, k1 = K 1 := ⟨_, rfl⟩
      rw [← hk0] at e0 HR1 HR2
      rw [← hk1] at e1 HR1 HR2
      clear hk0 hk1
      by_cases q0 : k0 = k1
      · subst q0
        go_wp2
        go_quiet (fail)
        go_wp2
        exact bodyPost_ret (v := .tuple #[.int .i64 1, .int .i64 0]) (by simp [results, Tryz.results25, go_sem]) rfl ⟨by rw [HR1.out, HR2.out]; simp [], bt HB.out (bt hB (bd (Below.refl _ _) _))⟩
      · have q0' : (k0 == k1) = false := by simp [q0]
        by_cases q1 : k0 = 0
        · subst q1
          go_wp2
          go_quiet (fail)
          go_wp2
          exact bodyPost_ret (v := .tuple #[.int .i64 1, .int .i64 0]) (by simp [results, Tryz.results25, go_sem]) rfl ⟨by rw [HR1.out, HR2.out]; simp [], bt HB.out (bt hB (bd (Below.refl _ _) _))⟩
        · have q1' : (k0 == 0) = false := by simp [q1]
          by_cases q2 : k1 = 0
          · subst q2
            go_wp2
            go_quiet (fail)
            go_wp2
            exact bodyPost_ret (v := .tuple #[.int .i64 1, .int .i64 0]) (by simp [results, Tryz.results25, go_sem]) rfl ⟨by rw [HR1.out, HR2.out]; simp [], bt HB.out (bt hB (bd (Below.refl _ _) _))⟩
          · have q2' : (k1 == 0) = false := by simp [q2]
            go_wp2
            go_quiet (fail)
            go_wp2
            exact bodyPost_ret (v := .tuple #[.int .i64 0, .int .i64 5]) (by simp [results, Tryz.results25, go_sem]) rfl ⟨by rw [HR1.out, HR2.out]; simp [q0, q1, q2], bt HB.out (bt hB (bd (Below.refl _ _) _))⟩
end Go.Proofs.YtahlmlbfgijcpaaGreatDoor
