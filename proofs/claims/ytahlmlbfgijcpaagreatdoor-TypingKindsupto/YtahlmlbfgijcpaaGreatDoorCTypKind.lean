/-
  typing's parts: the kinds of a condition's parts, one after the other.
  typing's kind: what a right condition is.
-/
import Derived.Test.YtahlmlbfgijcpaaGreatDoorCTypMath
import Derived.Test.YtahlmlbfgijcpaaGreatDoorCTypIs
import Derived.Test.YtahlmlbfgijcpaaGreatDoorCExprBase
import Derived.Test.YtahlmlbfgijcpaaGreatDoorCTypRuleOf
import Derived.Test.YtahlmlbfgijcpaaGreatDoorCExprRefN
namespace Go.Proofs.YtahlmlbfgijcpaaGreatDoor
open Go.RowKit

/-- What kind answers of a part. -/
def KindC (nv : Value) (N T : Addr) (x : X) (K E : Int) (d : World) : Prop :=
  Calls Tryz.prog 22 #[nv, x.val] d fun e w' => ∃ v, e = .returned (.tuple #[.int .i64 K, v]) ∧ ErrIs N T E v ∧ Below d.heap.size d w'
set_option maxRecDepth 100000 in
set_option maxHeartbeats 4000000 in
theorem parts_ok (nv : Value) (N T : Addr) (x : X) (K E : Nat → Int) (w : World) (hX : IsX w x) (hn : x.n ≤ 1048576) (HK : ∀ i, i < x.n → ∀ d, Below w.heap.size w d → KindC nv N T (x.c i) (K i) (E i) d) (h0 : ∀ i, i < x.n → E i = 0) :
    Calls Tryz.prog 38 #[nv, x.slice] w fun e w' => ∃ a cap, e = .returned (.tuple #[.slice a x.n cap, .nilIface]) ∧ IsI w' a x.n K ∧ Below w.heap.size w w' := by
  have HX : Hid (IsX w x) := hX
  have HC : Hid (∀ i, i < x.n → ∀ d, _) := HK
  have H0 : Hid (∀ i, i < x.n → E i = 0) := h0
  clear hX HK h0
  go_enter Tryz.func38, Tryz.ntmps38
  go_wp2
  go_loopw [6, 13] (fun u iv wr => ∃ k : Nat, k ≤ x.n ∧ iv = .int .i64 k ∧ Hid (wr.ownsRow w.heap.size 3 1 u k (rowI K k)) ∧ Below w.heap.size w wr) (fun _ iv _ => x.n - (intOf iv).toNat)
  case atStart => exact ⟨0, Nat.zero_le _, rfl, World.ownsRow_nil _ _ _ _, Below.refl _ _⟩
  case round =>
    obtain ⟨k, hk, rfl, HO, hB⟩ := hrel
    by_cases hkn : k < x.n
    · obtain ⟨b, o, ha, hN, hx⟩ := (HX.out.later hB).part hkn
      obtain ⟨d0, d1, d2, d3, d4, d5, d6⟩ := hN
      have C : Hid (∀ d, Below w.heap.size w d → KindC nv N T (x.c k) (K k) (E k) d) := HC.out k hkn
      have E0 : Hid (E k = 0) := H0.out k hkn
      have ha' : x.slice = .slice (some ⟨b, o, none⟩) x.n x.cap := by rw [← ha]
      have HX1 : Hid (k + 1 ≤ x.n) := hkn
      obtain ⟨y, hy⟩ : ∃ y, y = x.c k := ⟨_, rfl⟩
      rw [← hy] at d0 d1 d2 d3 d4 d5 d6 C
      rw [ha']
      have hnz : k ≤ 2097152 := by omega
      clear ha ha' hx hy
      go_wp2_with (first
        | (at_builtin; obtain ⟨v3, w3, r3, o3, b3⟩ := push_int HO2.out hB3.size hnz (K k); refine wpList_append_run rfl (.tmp 30) (.tmp 32) 85 rfl _ _ _ rfl rfl r3 ?_)
        | (go_at_call 22; refine (C.out _ (hB.alloc hB.size _)).mono ?_; rintro e w2 ⟨v, rfl, he, hB2⟩; obtain rfl : v = .nilIface := he.nil E0.out; have HO2 : Hid (w2.ownsRow w.heap.size 3 1 _ k (rowI K k)) := own_still (HO.out.alloc _) hB2; have hB3 : Below w.heap.size w w2 := (hB.alloc hB.size _).trans (hB2.mono (by have := hB.size; simp; omega)); clear he))
      refine ⟨⟨k + 1, HX1.out, by simp, o3, hB3.trans b3⟩, ?_⟩
      have := HX1.out
      simp [intOf]
      omega
    · obtain rfl : k = x.n := by omega
      obtain ⟨a, cap, rfl, hI, hle⟩ := own_isI HO.out
      have HI : Hid (IsI wr a x.n K) := hI
      clear hI
      go_wp2
      exact bodyPost_ret (v := .tuple #[.slice a x.n cap, .nilIface]) (by simp [results, Tryz.results38, go_sem]) rfl ⟨a, cap, rfl, HI.out, hB⟩
set_option maxRecDepth 100000 in
set_option maxHeartbeats 4000000 in
theorem parts_err (nv : Value) (N T : Addr) (x : X) (K E : Nat → Int) (i : Nat) (w : World) (hX : IsX w x) (hn : x.n ≤ 1048576) (HK : ∀ i, i < x.n → ∀ d, Below w.heap.size w d → KindC nv N T (x.c i) (K i) (E i) d) (hi : i < x.n) (he : ¬ E i = 0) (h0 : ∀ j, j < i → E j = 0) :
    Calls Tryz.prog 38 #[nv, x.slice] w fun e w' => ∃ v, e = .returned (.tuple #[.slice none 0 0, v]) ∧ ErrIs N T (E i) v ∧ Below w.heap.size w w' := by
  have HX : Hid (IsX w x) := hX
  have HC : Hid (∀ i, i < x.n → ∀ d, _) := HK
  have H0 : Hid (∀ j, j < i → E j = 0) := h0
  have HE : Hid (¬ E i = 0) := he
  have HI : Hid (i < x.n) := hi
  clear hX HK h0 he
  go_enter Tryz.func38, Tryz.ntmps38
  go_wp2
  go_loopw [6, 13] (fun u iv wr => ∃ k : Nat, k ≤ i ∧ iv = .int .i64 k ∧ Hid (wr.ownsRow w.heap.size 3 1 u k (rowI K k)) ∧ Below w.heap.size w wr) (fun _ iv _ => i - (intOf iv).toNat)
  case atStart => exact ⟨0, Nat.zero_le _, rfl, World.ownsRow_nil _ _ _ _, Below.refl _ _⟩
  case round =>
    obtain ⟨k, hk, rfl, HO, hB⟩ := hrel
    have hkn : k < x.n := by omega
    obtain ⟨b, o, ha, hN, hx⟩ := (HX.out.later hB).part hkn
    obtain ⟨d0, d1, d2, d3, d4, d5, d6⟩ := hN
    have C : Hid (∀ d, Below w.heap.size w d → KindC nv N T (x.c k) (K k) (E k) d) := HC.out k hkn
    have ha' : x.slice = .slice (some ⟨b, o, none⟩) x.n x.cap := by rw [← ha]
    obtain ⟨y, hy⟩ : ∃ y, y = x.c k := ⟨_, rfl⟩
    rw [← hy] at d0 d1 d2 d3 d4 d5 d6 C
    rw [ha']
    have hnz : k ≤ 2097152 := by omega
    clear ha ha' hx hy
    by_cases hki : k = i
    · subst hki
      go_wp2_with (first
        | (go_at_call 22; refine (C.out _ (hB.alloc hB.size _)).mono ?_; rintro e w2 ⟨v, rfl, he, hB2⟩; have HV : Hid (ErrIs N T (E k) v) := he; obtain ⟨t1, u1, rfl⟩ := he.some HE.out; have hB3 : Below w.heap.size w w2 := (hB.alloc hB.size _).trans (hB2.mono (by have := hB.size; simp; omega)); clear he))
      exact bodyPost_ret (v := .tuple #[.slice none 0 0, .iface 106 (.agg #[.int .i64 (k : Nat), .iface t1 u1])]) (by simp [results, Tryz.results38, go_sem]) rfl ⟨_, rfl, HV.out.part HE.out k, hB3⟩
    · have E0 : Hid (E k = 0) := H0.out k (by omega)
      have HX1 : Hid (k + 1 ≤ i) := by show k + 1 ≤ i; omega
      go_wp2_with (first
        | (at_builtin; obtain ⟨v3, w3, r3, o3, b3⟩ := push_int HO2.out hB3.size hnz (K k); refine wpList_append_run rfl (.tmp 30) (.tmp 32) 85 rfl _ _ _ rfl rfl r3 ?_)
        | (go_at_call 22; refine (C.out _ (hB.alloc hB.size _)).mono ?_; rintro e w2 ⟨v, rfl, he, hB2⟩; obtain rfl : v = .nilIface := he.nil E0.out; have HO2 : Hid (w2.ownsRow w.heap.size 3 1 _ k (rowI K k)) := own_still (HO.out.alloc _) hB2; have hB3 : Below w.heap.size w w2 := (hB.alloc hB.size _).trans (hB2.mono (by have := hB.size; simp; omega)); clear he))
      refine ⟨⟨k + 1, HX1.out, by simp, o3, hB3.trans b3⟩, ?_⟩
      have := HX1.out
      simp [intOf]
      omega
end Go.Proofs.YtahlmlbfgijcpaaGreatDoor
namespace Go.Proofs.YtahlmlbfgijcpaaGreatDoor
open Go.RowKit

/-- The field's kind, and what is handed back as its error. -/
def fldK (q : Option Int) : Int := q.getD 0
def fldE (N : Addr) (q : Option Int) : Value := if q.isSome then .nilIface else senV N
def FieldC (nv : Value) (N : Addr) (L : ByteArray → ByteArray → Option Int) (d : World) : Prop :=
  ∀ s f, s.size ≤ maxLen → Calls Tryz.prog 37 #[nv, .string s, .string f] d fun e w' => e = .returned (.tuple #[.int .i64 (fldK (L s f)), fldE N (L s f)]) ∧ Below d.heap.size d w'
set_option maxRecDepth 100000 in
set_option maxHeartbeats 4000000 in
theorem kind_const (nv : Value) (N T : Addr) (x : X) (w : World) (h1 : x.k = 1) : KindC nv N T x x.v.k 0 w := by
  obtain ⟨A, hA, hB, hs, hn⟩ := one_box x w
  obtain ⟨a0, a1, a2, a3, a4, a5, a6⟩ := hn.at0
  have h1' : (x.k == 1) = true := by simp [h1]
  have HB : Hid (Below w.heap.size w A) := hB
  clear hB hn h1
  unfold KindC
  go_enter Tryz.func22, Tryz.ntmps22
  go_wp2
  exact bodyPost_ret (v := .tuple #[.int .i64 x.v.k, .nilIface]) (by simp [results, Tryz.results22, go_sem]) rfl ⟨.nilIface, rfl, .inl ⟨rfl, rfl⟩, HB.out⟩
set_option maxRecDepth 100000 in
set_option maxHeartbeats 4000000 in
theorem kind_field (nv : Value) (N _ : Addr) (L : ByteArray → ByteArray → Option Int) (x : X) (w : World) (h2 : x.k = 2) (hsz : x.s.size ≤ maxLen) (HF : ∀ d, Below w.heap.size w d → FieldC nv N L d) :
    Calls Tryz.prog 22 #[nv, x.val] w fun e w' => e = .returned (.tuple #[.int .i64 (fldK (L x.s x.f)), fldE N (L x.s x.f)]) ∧ Below w.heap.size w w' := by
  obtain ⟨A, hA, hB, hs, hn⟩ := one_box x w
  obtain ⟨a0, a1, a2, a3, a4, a5, a6⟩ := hn.at0
  have h1' : (x.k == 1) = false := by simp [h2]
  have h2' : (x.k == 2) = true := by simp [h2]
  have HB : Hid (Below w.heap.size w A) := hB
  have C : Hid (Calls Tryz.prog 37 _ A _) := HF A hB x.s x.f hsz
  clear hB hn h2 HF hsz
  generalize L x.s x.f = q at C ⊢
  go_enter Tryz.func22, Tryz.ntmps22
  go_wp2_with (first | (go_at_call 37; refine C.out.mono ?_; rintro e w2 ⟨rfl, hB2⟩))
  exact bodyPost_ret (v := .tuple #[.int .i64 (fldK q), fldE N q]) (by simp [results, Tryz.results22, go_sem]) rfl ⟨rfl, HB.out.trans (hB2.mono HB.out.size)⟩
set_option maxRecDepth 100000 in
set_option maxHeartbeats 4000000 in
theorem kind_err (nv : Value) (N T : Addr) (x : X) (e : Int) (w : World) (h3 : 3 ≤ x.k) (h0 : ¬ e = 0) (HP : ∀ d, Below w.heap.size w d → Calls Tryz.prog 38 #[nv, x.slice] d fun r w' => ∃ v, r = .returned (.tuple #[.slice none 0 0, v]) ∧ ErrIs N T e v ∧ Below d.heap.size d w') : KindC nv N T x 0 e w := by
  obtain ⟨A, hA, hB, hs, hn⟩ := one_box x w
  obtain ⟨a0, a1, a2, a3, a4, a5, a6⟩ := hn.at0
  have h1' : (x.k == 1) = false := by simp; omega
  have h2' : (x.k == 2) = false := by simp; omega
  have HB : Hid (Below w.heap.size w A) := hB
  have C : Hid (Calls Tryz.prog 38 _ A _) := HP A hB
  have H0 : Hid (¬ e = 0) := h0
  clear hB hn h3 HP h0
  unfold KindC
  go_enter Tryz.func22, Tryz.ntmps22
  go_wp2_with (first | (go_at_call 38; refine C.out.mono ?_; rintro r w2 ⟨v, rfl, he, hB2⟩; have HV : Hid (ErrIs N T e v) := he; obtain ⟨t1, u1, rfl⟩ := he.some H0.out; clear he))
  exact bodyPost_ret (v := .tuple #[.int .i64 0, .iface t1 u1]) (by simp [results, Tryz.results22, go_sem]) rfl ⟨_, rfl, HV.out, HB.out.trans (hB2.mono HB.out.size)⟩
end Go.Proofs.YtahlmlbfgijcpaaGreatDoor
