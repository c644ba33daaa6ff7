/-
  SchemaBack's walk (P7.3): a schema that may be is read as it was; what is read may be, and is written as the same bytes.
-/
import Derived.Test.YtdaldnpajihdlaaSchMath
import Derived.Test.YtdaldnpajihdlaaSchSame
import Derived.Test.YtdaldnpajihdlaaSchField
import Derived.Deep.RegionHeld3
namespace Go.Proofs.Ytdaldnpajihdlaa
open Go.RowKit

/-- Nothing is left. -/
theorem rend_done {w : World} {B p h : Nat} {v : Value} {l : List Int} {q : Nat} (H : Rd w B p h v l q) (hq : q = l.length) :
    Calls Try.prog 22 #[.pointer (some ⟨p, 0, none⟩)] w fun e w' => e = .returned (.int .i64 0) ∧ Below w.heap.size w w' := by
  have c := rend_any H
  rwa [if_pos hq] at c
/-- The first bytes of a slice. -/
theorem isBytes_first {w : World} {b off len cap : Nat} {zs : List Int} (h : IsBytes w (some ⟨b, off, none⟩) len cap zs) (j : Nat) (hj : j ≤ len) : IsBytes w (some ⟨b, off, none⟩) j cap (zs.take j) := by
  obtain ⟨h1, h2, h3, h4, h5, h6⟩ := h
  refine ⟨by simp; omega, by omega, h3, (by intro h; cases h), fun k => ?_, fun h0 => ⟨b, off, rfl, fun k hk => ?_⟩⟩
  · rw [List.getElem?_take]
    split
    · exact h5 _
    · simp
  · obtain ⟨b', off', e, hc⟩ := h6 (by omega)
    cases e
    rw [hc k (by omega), List.getElem?_take, if_pos hk]
theorem Took.below {w w' : World} {B p h : Nat} {v : Value} {l : List Int} {q r : Nat} (H : Rd w B p h v l q) (hB : B ≤ w.heap.size) (t : Took w B p h v l r w') : Below B w w' := t.2.below hB H.low (by intro k hk; cases hk)

set_option maxRecDepth 100000 in
set_option maxHeartbeats 4000000 in
theorem schemaBack_no_err (S : ByteArray) (a : Option Addr) (n cap : Nat) (Nm : Nat → ByteArray) (K : Nat → Int) (a1 : Option Addr) (len1 cap1 : Nat) (zs : List Int) (w : World) (h0 : Flds w a n Nm K) (h1 : IsBytes w a1 len1 cap1 zs) (hl : len1 ≤ 140737488351232) (y : Int) (hc : chkZ S n Nm K = y) (hy : ¬ y = 0) (he : (getS zs 0).2.1 ≠ 0) :
    Calls Try.prog 4 #[schV S (.slice a n cap), .slice a1 len1 cap1] w fun e w' => e = .returned (.bool true) ∧ Below w.heap.size w w' := by
  have H0 : Hid (Flds w a n Nm K) := h0
  have H1 : Hid (IsBytes w a1 len1 cap1 zs) := h1
  have HL : Hid (len1 ≤ 140737488351232) := hl
  have hB0 : Below w.heap.size w (w.alloc (schO S (.slice a n cap))) := (Below.refl _ _).alloc (Nat.le_refl _) _
  have HXC0 : Hid ((w.alloc (schO S (.slice a n cap))).cell? ⟨w.heap.size, 0, none⟩ = some (.string S) ∧ (w.alloc (schO S (.slice a n cap))).cell? ⟨w.heap.size, 1, none⟩ = some (.slice a n cap)) := (Box2.new 25 w (.string S) (.slice a n cap)).cells
  have HCK : Hid (chkZ S n Nm K = y) := hc
  have hy1 : (y == 0) = false := by simpa using hy
  have HY : Hid (¬ y = 0) := hy
  clear h0 h1 hl hc hy
  go_enter Try.func4, Try.ntmps4
  go_upto_region 1 with fail
  obtain ⟨W, hW⟩ : ∃ W, W = (w.alloc (schO S (.slice a n cap))) := ⟨_, rfl⟩
  obtain ⟨bs, hbs⟩ : ∃ bs, bs = w.heap.size := ⟨_, rfl⟩
  rw [← hW, ← hbs] at HXC0
  rw [← hW] at hB0
  rw [← hW, ← hbs]
  clear hW hbs
  go_upto_region 10 with (first
    | (go_at_call 17
       refine (newWriter_ok 65536 W.heap.size W (by omega) (by omega) (Nat.le_refl _)).mono ?_
       rintro e w1 ⟨rfl, hW1, hB1⟩
       have HW1 : Hid (Wr w1 _ _ _ _ _ []) := hW1
       have L1 : Hid (Below W.heap.size W w1) := hB1
       clear hW1
       have x0 := cell_later HXC0.out.1 L1.out
       have x1 := cell_later HXC0.out.2 L1.out)
    | (go_at_call 18
       have cc := sput_no (some ⟨W.heap.size + 1, 0, none⟩) ⟨S, a, n, cap, Nm, K⟩ w1 (H0.out.later (bt hB0 L1.out)) (by rw [show Sch.chk ⟨S, a, n, cap, Nm, K⟩ = y from HCK.out]; exact HY.out)
       rw [show Sch.chk ⟨S, a, n, cap, Nm, K⟩ = y from HCK.out] at cc
       refine cc.mono ?_
       clear cc
       rintro e w2 ⟨rfl, hB2⟩
       have L2 : Hid (Below W.heap.size W w2) := bt L1.out hB2
       clear x0 x1 HW1 L1 hB1 hB2
       have x0 := cell_later HXC0.out.1 L2.out
       have x1 := cell_later HXC0.out.2 L2.out)
    | (go_at_call 10
       have cc := check_any S a n cap Nm K w2 (H0.out.later (bt hB0 L2.out))
       rw [HCK.out] at cc
       refine cc.mono ?_
       clear cc
       rintro e w3 ⟨rfl, hB3⟩
       have L3 : Hid (Below W.heap.size W w3) := bt L2.out hB3
       clear x0 x1 L2 hB3))
  have hBj : Below w.heap.size w w3 := bt hB0 L3.out
  clear L3 hB0 HXC0
  obtain ⟨S5, P5, e5, q5, hg⟩ : ∃ S5 P5 e5 q5, getS zs 0 = ((S5, P5), e5, q5) := ⟨_, _, _, _, rfl⟩
  have HGv : Hid (getS zs 0 = ((S5, P5), e5, q5)) := hg
  obtain ⟨rfl, rfl⟩ : S5 = ⟨#[]⟩ ∧ P5 = [] := by
    have := getS_none zs 0 he
    rw [hg] at this
    injection this with h2 h3
    exact ⟨h2, h3⟩
  have he' : (e5 != 0) = true := by rw [hg] at he; simpa using he
  clear hg he
  go_wp2_with (first
    | (go_at_call 19
       refine (newReader_any _ _ _ _ w3.heap.size _ (H1.out.later hBj) (by have := HL.out; omega) (Nat.le_refl _)).mono ?_
       rintro e wa ⟨pa, ha, va, rfl, hRa, hBa⟩
       have HRa : Hid (Rd wa w3.heap.size pa ha va zs 0) := hRa
       clear hRa)
    | (go_at_call 21
       have cc := sget_any HRa.out
       rw [HGv.out] at cc
       dsimp only at cc
       refine cc.mono ?_
       clear cc
       rintro e wb ⟨ub, rfl, tb, ob⟩
       obtain ⟨ab, cb, rfl⟩ := own_form ob
       have hBb : Below w.heap.size w wb := bt hBj (hBa.trans (Took.below HRa.out hBa.size tb))
       have hBc : Below w.heap.size w (wb.alloc (schO ⟨#[]⟩ (.slice ab ([] : List (ByteArray × Int)).length cb))) := hBb.alloc hBb.size _
       clear ob tb)
    | (go_at_call 16
       refine (awake_any _).mono ?_
       rintro e wd ⟨rfl, hBd⟩))
  go_ret
  exact ⟨rfl, bt hBc hBd⟩
set_option maxRecDepth 100000 in
set_option maxHeartbeats 4000000 in
theorem schemaBack_no_fine (S : ByteArray) (a : Option Addr) (n cap : Nat) (Nm : Nat → ByteArray) (K : Nat → Int) (a1 : Option Addr) (len1 cap1 : Nat) (zs : List Int) (w : World) (h0 : Flds w a n Nm K) (h1 : IsBytes w a1 len1 cap1 zs) (hl : len1 ≤ 140737488351232) (y : Int) (hc : chkZ S n Nm K = y) (hy : ¬ y = 0) (he : (getS zs 0).2.1 = 0) :
    Calls Try.prog 4 #[schV S (.slice a n cap), .slice a1 len1 cap1] w fun e w' => e = .returned (.bool true) ∧ Below w.heap.size w w' := by
  have H0 : Hid (Flds w a n Nm K) := h0
  have H1 : Hid (IsBytes w a1 len1 cap1 zs) := h1
  have HL : Hid (len1 ≤ 140737488351232) := hl
  have hB0 : Below w.heap.size w (w.alloc (schO S (.slice a n cap))) := (Below.refl _ _).alloc (Nat.le_refl _) _
  have HXC0 : Hid ((w.alloc (schO S (.slice a n cap))).cell? ⟨w.heap.size, 0, none⟩ = some (.string S) ∧ (w.alloc (schO S (.slice a n cap))).cell? ⟨w.heap.size, 1, none⟩ = some (.slice a n cap)) := (Box2.new 25 w (.string S) (.slice a n cap)).cells
  have HCK : Hid (chkZ S n Nm K = y) := hc
  have hy1 : (y == 0) = false := by simpa using hy
  have HY : Hid (¬ y = 0) := hy
  clear h0 h1 hl hc hy
  go_enter Try.func4, Try.ntmps4
  go_upto_region 1 with fail
  obtain ⟨W, hW⟩ : ∃ W, W = (w.alloc (schO S (.slice a n cap))) := ⟨_, rfl⟩
  obtain ⟨bs, hbs⟩ : ∃ bs, bs = w.heap.size := ⟨_, rfl⟩
  rw [← hW, ← hbs] at HXC0
  rw [← hW] at hB0
  rw [← hW, ← hbs]
  clear hW hbs
  go_upto_region 10 with (first
    | (go_at_call 17
       refine (newWriter_ok 65536 W.heap.size W (by omega) (by omega) (Nat.le_refl _)).mono ?_
       rintro e w1 ⟨rfl, hW1, hB1⟩
       have HW1 : Hid (Wr w1 _ _ _ _ _ []) := hW1
       have L1 : Hid (Below W.heap.size W w1) := hB1
       clear hW1
       have x0 := cell_later HXC0.out.1 L1.out
       have x1 := cell_later HXC0.out.2 L1.out)
    | (go_at_call 18
       have cc := sput_no (some ⟨W.heap.size + 1, 0, none⟩) ⟨S, a, n, cap, Nm, K⟩ w1 (H0.out.later (bt hB0 L1.out)) (by rw [show Sch.chk ⟨S, a, n, cap, Nm, K⟩ = y from HCK.out]; exact HY.out)
       rw [show Sch.chk ⟨S, a, n, cap, Nm, K⟩ = y from HCK.out] at cc
       refine cc.mono ?_
       clear cc
       rintro e w2 ⟨rfl, hB2⟩
       have L2 : Hid (Below W.heap.size W w2) := bt L1.out hB2
       clear x0 x1 HW1 L1 hB1 hB2
       have x0 := cell_later HXC0.out.1 L2.out
       have x1 := cell_later HXC0.out.2 L2.out)
    | (go_at_call 10
       have cc := check_any S a n cap Nm K w2 (H0.out.later (bt hB0 L2.out))
       rw [HCK.out] at cc
       refine cc.mono ?_
       clear cc
       rintro e w3 ⟨rfl, hB3⟩
       have L3 : Hid (Below W.heap.size W w3) := bt L2.out hB3
       clear x0 x1 L2 hB3))
  have hBj : Below w.heap.size w w3 := bt hB0 L3.out
  clear L3 hB0 HXC0
  obtain ⟨S5, P5, e5, q5, hg⟩ : ∃ S5 P5 e5 q5, getS zs 0 = ((S5, P5), e5, q5) := ⟨_, _, _, _, rfl⟩
  have HGv : Hid (getS zs 0 = ((S5, P5), e5, q5)) := hg
  have hsome := getS_enc zs H1.out.2.2.2.2.1 he
  rw [hg] at hsome he
  dsimp only at hsome he
  subst he
  obtain ⟨hr, hq, hen, hsz⟩ := hsome
  clear hg
  have hzl := H1.out.1
  have hcap := H1.out.2.1
  have hmx := H1.out.2.2.1
  unfold maxLen at hmx
  have hq0 : 0 < q5 := by
    have h1 : (encS S5 P5.length (nmOf P5) (kdOf P5)).length = q5 := by rw [← hen, List.length_take]; omega
    have h2 := (chkZ_ok hr).2.1
    unfold nameB fitsB at h2
    simp only [Bool.and_eq_true, decide_eq_true_eq] at h2
    simp only [encS, List.length_append, enc_length, bytesS_length] at h1
    omega
  obtain ⟨b1, o1, ha1, -⟩ := H1.out.2.2.2.2.2 (by omega)
  subst ha1
  have hql : (q5 : Int) ≤ (len1 : Int) := by omega
  have hqc : (q5 : Int) ≤ (cap1 : Int) := by omega
  have HS : Hid (strOf ([] ++ encS S5 P5.length (nmOf P5) (kdOf P5)) = strOf (zs.take q5)) := by rw [List.nil_append, hen]; rfl
  have Hr : Hid (chkZ S5 P5.length (nmOf P5) (kdOf P5) = 0) := hr
  have HZ5 : Hid (∀ x ∈ P5, x.1.size ≤ maxLen) := fun x hx => by have := hsz x hx; unfold maxLen; omega
  have HI : Hid (IsBytes w (some ⟨b1, o1, none⟩) q5 cap1 (zs.take q5)) := isBytes_first H1.out q5 (by omega)
  clear hr hq hen hzl hsz
  go_upto_region 14 with (first
    | (go_at_call 19
       refine (newReader_any _ _ _ _ w3.heap.size _ (H1.out.later hBj) (by have := HL.out; omega) (Nat.le_refl _)).mono ?_
       rintro e wa ⟨pa, ha, va, rfl, hRa, hBa⟩
       have HRa : Hid (Rd wa w3.heap.size pa ha va zs 0) := hRa
       clear hRa)
    | (go_at_call 21
       have cc := sget_any HRa.out
       rw [HGv.out] at cc
       dsimp only at cc
       refine cc.mono ?_
       clear cc
       rintro e wb ⟨ub, rfl, tb, ob⟩
       obtain ⟨ab, cb, eb, fb⟩ := rowF_flds ob rfl HZ5.out
       subst eb
       have hBb : Below w.heap.size w wb := bt hBj (hBa.trans (Took.below HRa.out hBa.size tb))
       have HRb : Hid (Rd wb w3.heap.size pa ha va zs q5) := tb.1
       have Fb : Hid (Flds wb ab P5.length (nmOf P5) (kdOf P5)) := fb
       clear ob tb fb))
  have hA7 : Below wb.heap.size wb (wb.alloc (schO S5 (.slice ab P5.length cb))) := (Below.refl _ _).alloc (Nat.le_refl _) _
  have hBc := bt hBb hA7
  have HRu : Hid (Rd (wb.alloc (schO S5 (.slice ab P5.length cb))) _ pa ha va zs q5) := HRb.out.later hA7
  have F7 : Hid (Flds (wb.alloc (schO S5 (.slice ab P5.length cb))) ab P5.length (nmOf P5) (kdOf P5)) := Fb.out.later hA7
  have X7 : Hid (Box2 25 (wb.alloc (schO S5 (.slice ab P5.length cb))) wb.heap.size (.string S5) (.slice ab P5.length cb)) := Box2.new _ wb _ _
  clear hA7 hBb HRb Fb hBj hBa HRa
  generalize wb.heap.size = bx at X7 ⊢
  generalize wb.alloc (schO S5 (.slice ab P5.length cb)) = W7 at hBc HRu F7 X7 ⊢
  go_upto_region 16 with (first
    | (go_at_call 17
       refine (newWriter_ok 65536 W7.heap.size W7 (by omega) (by omega) (Nat.le_refl _)).mono ?_
       rintro e w8 ⟨rfl, hW8, hB8⟩
       have HW8 : Hid (Wr w8 _ _ _ _ _ _) := hW8
       clear hW8
       obtain ⟨x0, x1⟩ := (X7.out.keep (keep_below hB8)).cells)
    | (go_at_call 18
       refine (sput_ok HW8.out hB8.size S5 ab P5.length cb (nmOf P5) (kdOf P5) (fun w' hb => F7.out.later (hB8.trans hb)) Hr.out (by have := encS_len S5 P5.length (nmOf P5) (kdOf P5) Hr.out; simp only [List.length_nil]; omega)).mono ?_
       rintro e wz ⟨rfl, ⟨v9, hW9⟩, hB9⟩
       have HW9 : Hid (Wr wz _ _ _ _ v9 ([] ++ encS S5 P5.length (nmOf P5) (kdOf P5))) := hW9
       have hB12 := hB8.trans hB9
       clear hW9 x0 x1))
  have HRu9 : Hid (Rd wz _ pa ha va zs q5) := HRu.out.later hB12
  have HXC : Hid (wz.cell? ⟨bx, 0, none⟩ = some (.string S5) ∧ wz.cell? ⟨bx, 1, none⟩ = some (.slice ab P5.length cb)) := (X7.out.keep (keep_below hB12)).cells
  have C4 : Hid (∀ d, Below wz.heap.size wz d → Calls Try.prog 10 #[schV S5 (.slice ab P5.length cb)] d fun e w' => e = .returned (.int .i64 0) ∧ Below d.heap.size d w') := fun d hd => by
    have cc := check_any S5 ab P5.length cb (nmOf P5) (kdOf P5) d ((F7.out.later hB12).later hd)
    rwa [Hr.out] at cc
  have hB13 := bt hBc hB12
  have HI9 : Hid (IsBytes wz (some ⟨b1, o1, none⟩) q5 cap1 (zs.take q5)) := HI.out.later hB13
  clear HRu HW8 hB8 hB9 hB12 hBc HI X7 F7
  refine wp_region_noPanic ?_
  refine wp_region_held_drew (S := fun w' => Below wz.heap.size wz w') (by kernel_rfl) ((Below.refl _ _).drew) (fun hHeld => ?_)
  have hT : Below wz.heap.size wz wz.drew := hHeld
  refine wpAnyH_take (i := 0) (oi := ⟨some 81, Op.move (Operand.tmp 16), 30, _, _, _⟩) (v := ?v0nofine) rfl (by kernel_rfl) (by kernel_rfl) (by kernel_rfl) (fun _ _ _ h => h) (Or.inl ⟨by rfl, ?hy0nofine⟩) hHeld ?rest0nofine
  case hy0nofine => intro w9 hSw; go_simp; (try with_reducible rfl)
  try simp only [Act.put, List.setIfInBounds_toArray, List.set_cons_zero, List.set_cons_succ]
  refine wpAnyH_take (i := 1) (oi := ⟨some 82, Op.binOp BinOp.eql 30 (Operand.tmp 81) (Operand.const (Value.int IntKind.i64 0)) 30, 4, _, _, _⟩) (v := ?v1nofine) rfl (by kernel_rfl) (by kernel_rfl) (by kernel_rfl) (fun _ _ _ h => h) (Or.inl ⟨by rfl, ?hy1nofine⟩) hHeld ?rest1nofine
  case hy1nofine => intro w9 hSw; go_simp; (try with_reducible rfl)
  try simp only [Act.put, List.setIfInBounds_toArray, List.set_cons_zero, List.set_cons_succ]
  refine wpAnyH_take (i := 2) (oi := ⟨some 83, Op.move (Operand.tmp 82), 4, _, _, _⟩) (v := ?v2nofine) rfl (by kernel_rfl) (by kernel_rfl) (by kernel_rfl) (fun _ _ _ h => h) (Or.inl ⟨by rfl, ?hy2nofine⟩) hHeld ?rest2nofine
  case hy2nofine => intro w9 hSw; go_simp; (try with_reducible rfl)
  try simp only [Act.put, List.setIfInBounds_toArray, List.set_cons_zero, List.set_cons_succ]
  refine wpAnyH_take (i := 3) (oi := ⟨some 84, Op.load 25 (Operand.tmp 12), 25, _, _, _⟩) (v := ?v3nofine) rfl (by kernel_rfl) (by kernel_rfl) (by kernel_rfl) (fun _ _ _ h => h) (Or.inl ⟨by rfl, ?hy3nofine⟩) hHeld ?rest3nofine
  case hy3nofine => intro w9 hSw; have c0 := cell_later HXC.out.1 hSw; have c1 := cell_later HXC.out.2 hSw; go_simp; (try with_reducible rfl)
  try simp only [Act.put, List.setIfInBounds_toArray, List.set_cons_zero, List.set_cons_succ]
  refine wpAnyH_ready (rs := [4]) (by kernel_rfl) (by simp) ?_
  refine AllReadyH.cons (o := ⟨some 85, Op.call { callee := Callee.value (Operand.func 10), args := #[Operand.tmp 84], argTypes := #[25] }, 30, _, _, _⟩) rfl (fun K hK => ?_) AllReadyH.nil
  go_simp
  refine (C4.out _ hHeld).mono ?_
  rintro e x4 ⟨rfl, hN4⟩
  go_wp2_with fail
  have hT4 : Below wz.heap.size wz x4 := hT.trans (hN4.mono hT.size)
  refine hK.out _ _ (hHeld.trans (hN4.mono hHeld.size)) (fun _ => held_up (S' := fun w' => Below x4.heap.size x4 w') (fun w' h' => (hHeld.trans (hN4.mono hHeld.size)).trans (h'.mono (Nat.le_trans hHeld.size hN4.size))) _ _ _ _ ?_)
  clear hK K hHeld hT
  have hT : Below wz.heap.size wz x4 := hT4
  have hHeld : Below x4.heap.size x4 x4 := Below.refl _ _
  clear hT4 hN4
  try simp only [Act.put, List.setIfInBounds_toArray, List.set_cons_zero, List.set_cons_succ]
  refine wpAnyH_take (i := 5) (oi := ⟨some 86, Op.binOp BinOp.eql 30 (Operand.tmp 85) (Operand.const (Value.int IntKind.i64 0)) 30, 4, _, _, _⟩) (v := ?v5nofine) rfl (by kernel_rfl) (by kernel_rfl) (by kernel_rfl) (fun _ _ _ h => h) (Or.inl ⟨by rfl, ?hy5nofine⟩) hHeld ?rest5nofine
  case hy5nofine => intro w9 hSw; go_simp; (try with_reducible rfl)
  try simp only [Act.put, List.setIfInBounds_toArray, List.set_cons_zero, List.set_cons_succ]
  refine wpAnyH_take (i := 6) (oi := ⟨some 87, Op.pick (Operand.tmp 83) (Operand.tmp 86) (Operand.const (Value.bool false)), 4, _, _, _⟩) (v := ?v6nofine) rfl (by kernel_rfl) (by kernel_rfl) (by kernel_rfl) (fun _ _ _ h => h) (Or.inl ⟨by rfl, ?hy6nofine⟩) hHeld ?rest6nofine
  case hy6nofine => intro w9 hSw; go_simp; (try with_reducible rfl)
  try simp only [Act.put, List.setIfInBounds_toArray, List.set_cons_zero, List.set_cons_succ]
  refine wpAnyH_take (i := 7) (oi := ⟨some 88, Op.move (Operand.tmp 87), 4, _, _, _⟩) (v := ?v7nofine) rfl (by kernel_rfl) (by kernel_rfl) (by kernel_rfl) (fun _ _ _ h => h) (Or.inl ⟨by rfl, ?hy7nofine⟩) hHeld ?rest7nofine
  case hy7nofine => intro w9 hSw; go_simp; (try with_reducible rfl)
  try simp only [Act.put, List.setIfInBounds_toArray, List.set_cons_zero, List.set_cons_succ]
  refine wpAnyH_take (i := 8) (oi := ⟨some 89, Op.move (Operand.tmp 11), 43, _, _, _⟩) (v := ?v8nofine) rfl (by kernel_rfl) (by kernel_rfl) (by kernel_rfl) (fun _ _ _ h => h) (Or.inl ⟨by rfl, ?hy8nofine⟩) hHeld ?rest8nofine
  case hy8nofine => intro w9 hSw; go_simp; (try with_reducible rfl)
  try simp only [Act.put, List.setIfInBounds_toArray, List.set_cons_zero, List.set_cons_succ]
  refine wpAnyH_take (i := 10) (oi := ⟨some 91, Op.move (Operand.tmp 1), 38, _, _, _⟩) (v := ?v10nofine) rfl (by kernel_rfl) (by kernel_rfl) (by kernel_rfl) (fun _ _ _ h => h) (Or.inl ⟨by rfl, ?hy10nofine⟩) hHeld ?rest10nofine
  case hy10nofine => intro w9 hSw; go_simp; (try with_reducible rfl)
  try simp only [Act.put, List.setIfInBounds_toArray, List.set_cons_zero, List.set_cons_succ]
  refine wpAnyH_take (i := 11) (oi := ⟨some 92, Op.call { callee := Callee.builtin Builtin.len, args := #[Operand.tmp 91], argTypes := #[38] }, 3, _, _, _⟩) (v := ?v11nofine) rfl (by kernel_rfl) (by kernel_rfl) (by kernel_rfl) (fun _ _ _ h => h) (Or.inl ⟨by rfl, ?hy11nofine⟩) hHeld ?rest11nofine
  case hy11nofine => intro w9 hSw; go_simp; (try with_reducible rfl)
  try simp only [Act.put, List.setIfInBounds_toArray, List.set_cons_zero, List.set_cons_succ]
  refine wpAnyH_ready (rs := [9]) (by kernel_rfl) (by simp) ?_
  refine AllReadyH.cons (o := ⟨some 90, Op.call { callee := Callee.value (Operand.func 23), args := #[Operand.tmp 89], argTypes := #[43] }, 3, _, _, _⟩) rfl (fun K hK => ?_) AllReadyH.nil
  go_simp
  refine (rat_any (HRu9.out.later hT)).mono ?_
  rintro e x9 ⟨rfl, hx9⟩
  replace hx9 := hx9.symm
  subst hx9
  go_wp2_with fail
  refine hK.out _ _ hHeld (fun _ => ?_)
  clear hK K
  try simp only [Act.put, List.setIfInBounds_toArray, List.set_cons_zero, List.set_cons_succ]
  refine wpAnyH_take (i := 12) (oi := ⟨some 93, Op.binOp BinOp.leq 3 (Operand.tmp 90) (Operand.tmp 92) 3, 4, _, _, _⟩) (v := ?v12nofine) rfl (by kernel_rfl) (by kernel_rfl) (by kernel_rfl) (fun _ _ _ h => h) (Or.inl ⟨by rfl, ?hy12nofine⟩) hHeld ?rest12nofine
  case hy12nofine => intro w9 hSw; go_simp; (try with_reducible rfl)
  try simp only [Act.put, List.setIfInBounds_toArray, List.set_cons_zero, List.set_cons_succ]
  refine wpAnyH_take (i := 13) (oi := ⟨some 94, Op.pick (Operand.tmp 88) (Operand.tmp 93) (Operand.const (Value.bool false)), 4, _, _, _⟩) (v := ?v13nofine) rfl (by kernel_rfl) (by kernel_rfl) (by kernel_rfl) (fun _ _ _ h => h) (Or.inl ⟨by rfl, ?hy13nofine⟩) hHeld ?rest13nofine
  case hy13nofine => intro w9 hSw; go_simp; (try with_reducible rfl)
  try simp only [Act.put, List.setIfInBounds_toArray, List.set_cons_zero, List.set_cons_succ]
  refine wpAnyH_take (i := 14) (oi := ⟨some 95, Op.move (Operand.tmp 94), 4, _, _, _⟩) (v := ?v14nofine) rfl (by kernel_rfl) (by kernel_rfl) (by kernel_rfl) (fun _ _ _ h => h) (Or.inl ⟨by rfl, ?hy14nofine⟩) hHeld ?rest14nofine
  case hy14nofine => intro w9 hSw; go_simp; (try with_reducible rfl)
  try simp only [Act.put, List.setIfInBounds_toArray, List.set_cons_zero, List.set_cons_succ]
  refine wpAnyH_take (i := 15) (oi := ⟨some 96, Op.move (Operand.tmp 14), 39, _, _, _⟩) (v := ?v15nofine) rfl (by kernel_rfl) (by kernel_rfl) (by kernel_rfl) (fun _ _ _ h => h) (Or.inl ⟨by rfl, ?hy15nofine⟩) hHeld ?rest15nofine
  case hy15nofine => intro w9 hSw; go_simp; (try with_reducible rfl)
  try simp only [Act.put, List.setIfInBounds_toArray, List.set_cons_zero, List.set_cons_succ]
  refine wpAnyH_take (i := 18) (oi := ⟨some 99, Op.move (Operand.tmp 1), 38, _, _, _⟩) (v := ?v18nofine) rfl (by kernel_rfl) (by kernel_rfl) (by kernel_rfl) (fun _ _ _ h => h) (Or.inl ⟨by rfl, ?hy18nofine⟩) hHeld ?rest18nofine
  case hy18nofine => intro w9 hSw; go_simp; (try with_reducible rfl)
  try simp only [Act.put, List.setIfInBounds_toArray, List.set_cons_zero, List.set_cons_succ]
  refine wpAnyH_take (i := 19) (oi := ⟨some 100, Op.move (Operand.tmp 11), 43, _, _, _⟩) (v := ?v19nofine) rfl (by kernel_rfl) (by kernel_rfl) (by kernel_rfl) (fun _ _ _ h => h) (Or.inl ⟨by rfl, ?hy19nofine⟩) hHeld ?rest19nofine
  case hy19nofine => intro w9 hSw; go_simp; (try with_reducible rfl)
  try simp only [Act.put, List.setIfInBounds_toArray, List.set_cons_zero, List.set_cons_succ]
  refine wpAnyH_ready (rs := [16]) (by kernel_rfl) (by simp) ?_
  refine AllReadyH.cons (o := ⟨some 97, Op.call { callee := Callee.value (Operand.func 20), args := #[Operand.tmp 96], argTypes := #[39] }, 38, _, _, _⟩) rfl (fun K hK => ?_) AllReadyH.nil
  go_simp
  refine (wdone_any (HW9.out.later hT)).mono ?_
  rintro e x16 ⟨u16, rfl, ho16, hN16⟩
  go_wp2_with fail
  have hT16 : Below wz.heap.size wz x16 := hT.trans (hN16.mono hT.size)
  refine hK.out _ _ (hHeld.trans (hN16.mono hHeld.size)) (fun _ => held_up (S' := fun w' => Below x16.heap.size x16 w') (fun w' h' => (hHeld.trans (hN16.mono hHeld.size)).trans (h'.mono (Nat.le_trans hHeld.size hN16.size))) _ _ _ _ ?_)
  clear hK K hHeld hT
  have hT : Below wz.heap.size wz x16 := hT16
  have hHeld : Below x16.heap.size x16 x16 := Below.refl _ _
  clear hT16 hN16
  try simp only [Act.put, List.setIfInBounds_toArray, List.set_cons_zero, List.set_cons_succ]
  have HO16 : Hid (World.ownsRow _ _ _ _ _ _ _) := ho16
  clear ho16
  refine wpAnyH_take (i := 17) (oi := ⟨some 98, Op.convert 38 9 (Operand.tmp 97), 9, _, _, _⟩) (v := ?v17nofine) rfl (by kernel_rfl) (by kernel_rfl) (by kernel_rfl) (fun _ _ _ h => h) (Or.inl ⟨by rfl, ?hy17nofine⟩) hHeld ?rest17nofine
  case hy17nofine => intro w9 hSw; have c17 := conv_own (own_below HO16.out hSw); rw [HS.out] at c17; go_simp; (try with_reducible rfl)
  try simp only [Act.put, List.setIfInBounds_toArray, List.set_cons_zero, List.set_cons_succ]
  refine wpAnyH_ready (rs := [20]) (by kernel_rfl) (by simp) ?_
  refine AllReadyH.cons (o := ⟨some 101, Op.call { callee := Callee.value (Operand.func 23), args := #[Operand.tmp 100], argTypes := #[43] }, 3, _, _, _⟩) rfl (fun K hK => ?_) AllReadyH.nil
  go_simp
  refine (rat_any (HRu9.out.later hT)).mono ?_
  rintro e x20 ⟨rfl, hx20⟩
  replace hx20 := hx20.symm
  subst hx20
  go_wp2_with fail
  refine hK.out _ _ hHeld (fun _ => ?_)
  clear hK K
  try simp only [Act.put, List.setIfInBounds_toArray, List.set_cons_zero, List.set_cons_succ]
  refine wpAnyH_take (i := 21) (oi := ⟨some 102, Op.slice 38 (Operand.tmp 99) none (some (Operand.tmp 101)) none, 38, _, _, _⟩) (v := ?v21nofine) rfl (by kernel_rfl) (by kernel_rfl) (by kernel_rfl) (fun _ _ _ h => h) (Or.inl ⟨by rfl, ?hy21nofine⟩) hHeld ?rest21nofine
  case hy21nofine => intro w9 hSw; go_simp; (try with_reducible rfl)
  try simp only [Act.put, List.setIfInBounds_toArray, List.set_cons_zero, List.set_cons_succ]
  refine wpAnyH_take (i := 22) (oi := ⟨some 103, Op.convert 38 9 (Operand.tmp 102), 9, _, _, _⟩) (v := ?v22nofine) rfl (by kernel_rfl) (by kernel_rfl) (by kernel_rfl) (fun _ _ _ h => h) (Or.inl ⟨by rfl, ?hy22nofine⟩) hHeld ?rest22nofine
  case hy22nofine => intro w9 hSw; have c22 := conv_in (HI9.out.later (hT.trans (hSw.mono hT.size))); go_simp; (try with_reducible rfl)
  try simp only [Act.put, List.setIfInBounds_toArray, List.set_cons_zero, List.set_cons_succ]
  refine wpAnyH_take (i := 23) (oi := ⟨some 104, Op.binOp BinOp.eql 9 (Operand.tmp 98) (Operand.tmp 103) 9, 4, _, _, _⟩) (v := ?v23nofine) rfl (by kernel_rfl) (by kernel_rfl) (by kernel_rfl) (fun _ _ _ h => h) (Or.inl ⟨by rfl, ?hy23nofine⟩) hHeld ?rest23nofine
  case hy23nofine => intro w9 hSw; go_simp; (try with_reducible rfl)
  try simp only [Act.put, List.setIfInBounds_toArray, List.set_cons_zero, List.set_cons_succ]
  refine wpAnyH_take (i := 24) (oi := ⟨some 105, Op.pick (Operand.tmp 95) (Operand.tmp 104) (Operand.const (Value.bool false)), 4, _, _, _⟩) (v := ?v24nofine) rfl (by kernel_rfl) (by kernel_rfl) (by kernel_rfl) (fun _ _ _ h => h) (Or.inl ⟨by rfl, ?hy24nofine⟩) hHeld ?rest24nofine
  case hy24nofine => intro w9 hSw; go_simp; (try with_reducible rfl)
  try simp only [Act.put, List.setIfInBounds_toArray, List.set_cons_zero, List.set_cons_succ]
  refine wpAnyH_take (i := 25) (oi := ⟨some 106, Op.move (Operand.tmp 105), 4, _, _, _⟩) (v := ?v25nofine) rfl (by kernel_rfl) (by kernel_rfl) (by kernel_rfl) (fun _ _ _ h => h) (Or.inl ⟨by rfl, ?hy25nofine⟩) hHeld ?rest25nofine
  case hy25nofine => intro w9 hSw; go_simp; (try with_reducible rfl)
  try simp only [Act.put, List.setIfInBounds_toArray, List.set_cons_zero, List.set_cons_succ]
  refine wpAnyH_ready (rs := [26]) (by kernel_rfl) (by simp) ?_
  refine AllReadyH.cons (o := ⟨some 107, Op.call { callee := Callee.value (Operand.func 16), args := #[], argTypes := #[] }, 4, _, _, _⟩) rfl (fun K hK => ?_) AllReadyH.nil
  go_simp
  refine (awake_any _).mono ?_
  rintro e x26 ⟨rfl, hN26⟩
  go_wp2_with fail
  have hT26 : Below wz.heap.size wz x26 := hT.trans (hN26.mono hT.size)
  refine hK.out _ _ (hHeld.trans (hN26.mono hHeld.size)) (fun _ => held_up (S' := fun w' => Below x26.heap.size x26 w') (fun w' h' => (hHeld.trans (hN26.mono hHeld.size)).trans (h'.mono (Nat.le_trans hHeld.size hN26.size))) _ _ _ _ ?_)
  clear hK K hHeld hT
  have hT : Below wz.heap.size wz x26 := hT26
  have hHeld : Below x26.heap.size x26 x26 := Below.refl _ _
  clear hT26 hN26
  try simp only [Act.put, List.setIfInBounds_toArray, List.set_cons_zero, List.set_cons_succ]
  refine wpAnyH_take (i := 27) (oi := ⟨some 108, Op.pick (Operand.tmp 106) (Operand.tmp 107) (Operand.const (Value.bool false)), 4, _, _, _⟩) (v := ?v27nofine) rfl (by kernel_rfl) (by kernel_rfl) (by kernel_rfl) (fun _ _ _ h => h) (Or.inl ⟨by rfl, ?hy27nofine⟩) hHeld ?rest27nofine
  case hy27nofine => intro w9 hSw; go_simp; (try with_reducible rfl)
  try simp only [Act.put, List.setIfInBounds_toArray, List.set_cons_zero, List.set_cons_succ]
  refine wpAnyH_take (i := 28) (oi := ⟨some 4, Op.assign (Operand.tmp 108), 4, _, _, _⟩) (v := ?v28nofine) rfl (by kernel_rfl) (by kernel_rfl) (by kernel_rfl) (fun _ _ _ h => h) (Or.inl ⟨by rfl, ?hy28nofine⟩) hHeld ?rest28nofine
  case hy28nofine => intro w9 hSw; go_simp; (try with_reducible rfl)
  try simp only [Act.put, List.setIfInBounds_toArray, List.set_cons_zero, List.set_cons_succ]
  refine wpAnyH_done (by kernel_rfl) ?_ _
  refine NoPanic.normal ?_
  go_wp2
  go_ret
  exact ⟨rfl, hB13.trans (hT.mono hB13.size)⟩
set_option maxRecDepth 100000 in
set_option maxHeartbeats 4000000 in
theorem schemaBack_ok_err (S : ByteArray) (a : Option Addr) (n cap : Nat) (Nm : Nat → ByteArray) (K : Nat → Int) (a1 : Option Addr) (len1 cap1 : Nat) (zs : List Int) (w : World) (h0 : Flds w a n Nm K) (h1 : IsBytes w a1 len1 cap1 zs) (hl : len1 ≤ 140737488351232) (hc : chkZ S n Nm K = 0) (he : (getS zs 0).2.1 ≠ 0) :
    Calls Try.prog 4 #[schV S (.slice a n cap), .slice a1 len1 cap1] w fun e w' => e = .returned (.bool true) ∧ Below w.heap.size w w' := by
  have H0 : Hid (Flds w a n Nm K) := h0
  have H1 : Hid (IsBytes w a1 len1 cap1 zs) := h1
  have HL : Hid (len1 ≤ 140737488351232) := hl
  have hB0 : Below w.heap.size w (w.alloc (schO S (.slice a n cap))) := (Below.refl _ _).alloc (Nat.le_refl _) _
  have HXC0 : Hid ((w.alloc (schO S (.slice a n cap))).cell? ⟨w.heap.size, 0, none⟩ = some (.string S) ∧ (w.alloc (schO S (.slice a n cap))).cell? ⟨w.heap.size, 1, none⟩ = some (.slice a n cap)) := (Box2.new 25 w (.string S) (.slice a n cap)).cells
  have HCK : Hid (chkZ S n Nm K = 0) := hc
  clear h0 h1 hl hc
  have HSZ : Hid (∀ x ∈ listOf Nm K n, x.1.size ≤ maxLen) := by
    intro x hx
    obtain ⟨j, hj, rfl⟩ := List.getElem_of_mem hx
    rw [listOf_length] at hj
    have e1 := listOf_get Nm K n j hj
    rw [List.getElem?_eq_getElem (by rw [listOf_length]; exact hj)] at e1
    injection e1 with e1
    rw [e1]
    have := (right_parts (allR_at Nm K n (chkZ_ok HCK.out).2.2.2 j hj)).1
    unfold maxLen
    simp only
    omega
  have HSM : Hid (sameB S n (nmOf (listOf Nm K n)) (kdOf (listOf Nm K n)) S n Nm K = true) := by
    show sameB S n (nmOf (listOf Nm K n)) (kdOf (listOf Nm K n)) S n Nm K = true
    unfold sameB
    rw [(eqTo_at _ _ _ _ n).2 fun j hj => nmOf_list Nm K n j hj]
    simp
  go_enter Try.func4, Try.ntmps4
  go_upto_region 1 with fail
  obtain ⟨W, hW⟩ : ∃ W, W = (w.alloc (schO S (.slice a n cap))) := ⟨_, rfl⟩
  obtain ⟨bs, hbs⟩ : ∃ bs, bs = w.heap.size := ⟨_, rfl⟩
  rw [← hW, ← hbs] at HXC0
  rw [← hW] at hB0
  rw [← hW, ← hbs]
  clear hW hbs
  go_upto_region 10 with (first
    | (go_at_call 17
       refine (newWriter_ok 65536 W.heap.size W (by omega) (by omega) (Nat.le_refl _)).mono ?_
       rintro e w1 ⟨rfl, hW1, hB1⟩
       have HW1 : Hid (Wr w1 _ _ _ _ _ []) := hW1
       have L1 : Hid (Below W.heap.size W w1) := hB1
       clear hW1
       have x0 := cell_later HXC0.out.1 L1.out
       have x1 := cell_later HXC0.out.2 L1.out)
    | (go_at_call 18
       refine (sput_ok HW1.out hB1.size S a n cap Nm K (fun w' hb => H0.out.later (bt hB0 (L1.out.trans hb))) HCK.out (by have := encS_len S n Nm K HCK.out; simp only [List.length_nil]; omega)).mono ?_
       rintro e w2 ⟨rfl, ⟨v2, hW2⟩, hB2⟩
       have HW2 : Hid (Wr w2 _ _ _ _ v2 (encS S n Nm K)) := hW2
       have L2 : Hid (Below W.heap.size W w2) := L1.out.trans hB2
       clear hW2 x0 x1 HW1 L1 hB1 hB2
       have x0 := cell_later HXC0.out.1 L2.out
       have x1 := cell_later HXC0.out.2 L2.out)
    | (go_at_call 10
       have cc := check_any S a n cap Nm K w2 (H0.out.later (bt hB0 L2.out))
       rw [HCK.out] at cc
       refine cc.mono ?_
       clear cc
       rintro e w3 ⟨rfl, hB3⟩
       have HW3 : Hid (Wr w3 _ _ _ _ v2 (encS S n Nm K)) := HW2.out.later hB3
       have L3 : Hid (Below W.heap.size W w3) := bt L2.out hB3
       clear x0 x1 HW2 L2 hB3)
    | (go_at_call 20
       refine (wdone_any HW3.out).mono ?_
       rintro e w4 ⟨u, rfl, hown4, hB4⟩
       obtain ⟨a4, c4, rfl, hy4⟩ := isBytes_own hown4 HW3.out.hd.bd
       have HY4 : Hid (IsBytes _ _ _ _ _) := hy4
       have L4 : Hid (Below W.heap.size W w4) := bt L3.out hB4
       clear hown4 hy4 HW3 L3 hB4)
    | (go_at_call 19
       refine (newReader_any _ _ _ _ w4.heap.size _ HY4.out (by have := encS_len S n Nm K HCK.out; omega) (Nat.le_refl _)).mono ?_
       rintro e w5 ⟨p5, h5, v5, rfl, hR5, hB5⟩
       have HR5 : Hid (Rd w5 w4.heap.size p5 h5 v5 (encS S n Nm K) 0) := hR5
       have S5 : Hid (w4.heap.size ≤ w5.heap.size) := hB5.size
       have L5 : Hid (Below W.heap.size W w5) := bt L4.out hB5
       have S4 : Hid (W.heap.size ≤ w4.heap.size) := L4.out.size
       clear hR5 HY4 L4 hB5)
    | (go_at_call 21
       have cc := sget_any HR5.out
       rw [getS_put S n Nm K HCK.out] at cc
       dsimp only at cc
       refine cc.mono ?_
       clear cc
       rintro e w6 ⟨u6, rfl, t6, o6⟩
       rw [listOf_length] at o6
       obtain ⟨a6, c6, e6, f6⟩ := rowF_flds o6 (listOf_length Nm K n).symm HSZ.out
       subst e6
       have F6 : Hid (Flds w6 a6 n (nmOf (listOf Nm K n)) (kdOf (listOf Nm K n))) := f6
       have R6 : Hid (Rd w6 _ p5 h5 v5 (encS S n Nm K) (encS S n Nm K).length) := t6.1
       have L6 : Hid (Below W.heap.size W w6) := L5.out.trans ((Took.below HR5.out S5.out t6).mono S4.out)
       have hA7 : Below w6.heap.size w6 (w6.alloc (schO S (.slice a6 n c6))) := (Below.refl _ _).alloc (Nat.le_refl _) _
       have hn6 : n ≤ 16 := (chkZ_ok HCK.out).1
       clear t6 o6 f6 HR5 L5 S4 S5)
    | (go_at_call 22
       refine (rend_done (R6.out.later hA7) rfl).mono ?_
       rintro e w7 ⟨rfl, hB7⟩
       have M7 : Hid (Below w6.heap.size w6 w7) := bt hA7 hB7
       have L7 : Hid (Below W.heap.size W w7) := bt L6.out M7.out
       have z := (Box2.new 25 w6 (.string S) (.slice a6 n c6)).cells
       have z0 := cell_later z.1 hB7
       have z1 := cell_later z.2 hB7
       clear z hB7
       have x0 := cell_later HXC0.out.1 L7.out
       have x1 := cell_later HXC0.out.2 L7.out)
    | (go_at_call 14
       have cc := same_any S a6 n c6 (nmOf (listOf Nm K n)) (kdOf (listOf Nm K n)) S a n cap Nm K w7 (F6.out.later M7.out) (H0.out.later (bt hB0 L7.out)) (by omega)
       rw [HSM.out] at cc
       refine cc.mono ?_
       clear cc x0 x1 z0 z1
       rintro e w8 ⟨rfl, hB8⟩
       have L8 : Hid (Below W.heap.size W w8) := bt L7.out hB8
       clear L7 M7 L6 R6 F6 hA7 hB8))
  have hBj : Below w.heap.size w w8 := bt hB0 L8.out
  clear L8 hB0 HXC0 HSM HSZ
  obtain ⟨S5, P5, e5, q5, hg⟩ : ∃ S5 P5 e5 q5, getS zs 0 = ((S5, P5), e5, q5) := ⟨_, _, _, _, rfl⟩
  have HGv : Hid (getS zs 0 = ((S5, P5), e5, q5)) := hg
  obtain ⟨rfl, rfl⟩ : S5 = ⟨#[]⟩ ∧ P5 = [] := by
    have := getS_none zs 0 he
    rw [hg] at this
    injection this with h2 h3
    exact ⟨h2, h3⟩
  have he' : (e5 != 0) = true := by rw [hg] at he; simpa using he
  clear hg he
  go_wp2_with (first
    | (go_at_call 19
       refine (newReader_any _ _ _ _ w8.heap.size _ (H1.out.later hBj) (by have := HL.out; omega) (Nat.le_refl _)).mono ?_
       rintro e wa ⟨pa, ha, va, rfl, hRa, hBa⟩
       have HRa : Hid (Rd wa w8.heap.size pa ha va zs 0) := hRa
       clear hRa)
    | (go_at_call 21
       have cc := sget_any HRa.out
       rw [HGv.out] at cc
       dsimp only at cc
       refine cc.mono ?_
       clear cc
       rintro e wb ⟨ub, rfl, tb, ob⟩
       obtain ⟨ab, cb, rfl⟩ := own_form ob
       have hBb : Below w.heap.size w wb := bt hBj (hBa.trans (Took.below HRa.out hBa.size tb))
       have hBc : Below w.heap.size w (wb.alloc (schO ⟨#[]⟩ (.slice ab ([] : List (ByteArray × Int)).length cb))) := hBb.alloc hBb.size _
       clear ob tb)
    | (go_at_call 16
       refine (awake_any _).mono ?_
       rintro e wd ⟨rfl, hBd⟩))
  go_ret
  exact ⟨rfl, bt hBc hBd⟩
set_option maxRecDepth 100000 in
set_option maxHeartbeats 4000000 in
theorem schemaBack_ok_fine (S : ByteArray) (a : Option Addr) (n cap : Nat) (Nm : Nat → ByteArray) (K : Nat → Int) (a1 : Option Addr) (len1 cap1 : Nat) (zs : List Int) (w : World) (h0 : Flds w a n Nm K) (h1 : IsBytes w a1 len1 cap1 zs) (hl : len1 ≤ 140737488351232) (hc : chkZ S n Nm K = 0) (he : (getS zs 0).2.1 = 0) :
    Calls Try.prog 4 #[schV S (.slice a n cap), .slice a1 len1 cap1] w fun e w' => e = .returned (.bool true) ∧ Below w.heap.size w w' := by
  have H0 : Hid (Flds w a n Nm K) := h0
  have H1 : Hid (IsBytes w a1 len1 cap1 zs) := h1
  have HL : Hid (len1 ≤ 140737488351232) := hl
  have hB0 : Below w.heap.size w (w.alloc (schO S (.slice a n cap))) := (Below.refl _ _).alloc (Nat.le_refl _) _
  have HXC0 : Hid ((w.alloc (schO S (.slice a n cap))).cell? ⟨w.heap.size, 0, none⟩ = some (.string S) ∧ (w.alloc (schO S (.slice a n cap))).cell? ⟨w.heap.size, 1, none⟩ = some (.slice a n cap)) := (Box2.new 25 w (.string S) (.slice a n cap)).cells
  have HCK : Hid (chkZ S n Nm K = 0) := hc
  clear h0 h1 hl hc
  have HSZ : Hid (∀ x ∈ listOf Nm K n, x.1.size ≤ maxLen) := by
    intro x hx
    obtain ⟨j, hj, rfl⟩ := List.getElem_of_mem hx
    rw [listOf_length] at hj
    have e1 := listOf_get Nm K n j hj
    rw [List.getElem?_eq_getElem (by rw [listOf_length]; exact hj)] at e1
    injection e1 with e1
    rw [e1]
    have := (right_parts (allR_at Nm K n (chkZ_ok HCK.out).2.2.2 j hj)).1
    unfold maxLen
    simp only
    omega
  have HSM : Hid (sameB S n (nmOf (listOf Nm K n)) (kdOf (listOf Nm K n)) S n Nm K = true) := by
    show sameB S n (nmOf (listOf Nm K n)) (kdOf (listOf Nm K n)) S n Nm K = true
    unfold sameB
    rw [(eqTo_at _ _ _ _ n).2 fun j hj => nmOf_list Nm K n j hj]
    simp
  go_enter Try.func4, Try.ntmps4
  go_upto_region 1 with fail
  obtain ⟨W, hW⟩ : ∃ W, W = (w.alloc (schO S (.slice a n cap))) := ⟨_, rfl⟩
  obtain ⟨bs, hbs⟩ : ∃ bs, bs = w.heap.size := ⟨_, rfl⟩
  rw [← hW, ← hbs] at HXC0
  rw [← hW] at hB0
  rw [← hW, ← hbs]
  clear hW hbs
  go_upto_region 10 with (first
    | (go_at_call 17
       refine (newWriter_ok 65536 W.heap.size W (by omega) (by omega) (Nat.le_refl _)).mono ?_
       rintro e w1 ⟨rfl, hW1, hB1⟩
       have HW1 : Hid (Wr w1 _ _ _ _ _ []) := hW1
       have L1 : Hid (Below W.heap.size W w1) := hB1
       clear hW1
       have x0 := cell_later HXC0.out.1 L1.out
       have x1 := cell_later HXC0.out.2 L1.out)
    | (go_at_call 18
       refine (sput_ok HW1.out hB1.size S a n cap Nm K (fun w' hb => H0.out.later (bt hB0 (L1.out.trans hb))) HCK.out (by have := encS_len S n Nm K HCK.out; simp only [List.length_nil]; omega)).mono ?_
       rintro e w2 ⟨rfl, ⟨v2, hW2⟩, hB2⟩
       have HW2 : Hid (Wr w2 _ _ _ _ v2 (encS S n Nm K)) := hW2
       have L2 : Hid (Below W.heap.size W w2) := L1.out.trans hB2
       clear hW2 x0 x1 HW1 L1 hB1 hB2
       have x0 := cell_later HXC0.out.1 L2.out
       have x1 := cell_later HXC0.out.2 L2.out)
    | (go_at_call 10
       have cc := check_any S a n cap Nm K w2 (H0.out.later (bt hB0 L2.out))
       rw [HCK.out] at cc
       refine cc.mono ?_
       clear cc
       rintro e w3 ⟨rfl, hB3⟩
       have HW3 : Hid (Wr w3 _ _ _ _ v2 (encS S n Nm K)) := HW2.out.later hB3
       have L3 : Hid (Below W.heap.size W w3) := bt L2.out hB3
       clear x0 x1 HW2 L2 hB3)
    | (go_at_call 20
       refine (wdone_any HW3.out).mono ?_
       rintro e w4 ⟨u, rfl, hown4, hB4⟩
       obtain ⟨a4, c4, rfl, hy4⟩ := isBytes_own hown4 HW3.out.hd.bd
       have HY4 : Hid (IsBytes _ _ _ _ _) := hy4
       have L4 : Hid (Below W.heap.size W w4) := bt L3.out hB4
       clear hown4 hy4 HW3 L3 hB4)
    | (go_at_call 19
       refine (newReader_any _ _ _ _ w4.heap.size _ HY4.out (by have := encS_len S n Nm K HCK.out; omega) (Nat.le_refl _)).mono ?_
       rintro e w5 ⟨p5, h5, v5, rfl, hR5, hB5⟩
       have HR5 : Hid (Rd w5 w4.heap.size p5 h5 v5 (encS S n Nm K) 0) := hR5
       have S5 : Hid (w4.heap.size ≤ w5.heap.size) := hB5.size
       have L5 : Hid (Below W.heap.size W w5) := bt L4.out hB5
       have S4 : Hid (W.heap.size ≤ w4.heap.size) := L4.out.size
       clear hR5 HY4 L4 hB5)
    | (go_at_call 21
       have cc := sget_any HR5.out
       rw [getS_put S n Nm K HCK.out] at cc
       dsimp only at cc
       refine cc.mono ?_
       clear cc
       rintro e w6 ⟨u6, rfl, t6, o6⟩
       rw [listOf_length] at o6
       obtain ⟨a6, c6, e6, f6⟩ := rowF_flds o6 (listOf_length Nm K n).symm HSZ.out
       subst e6
       have F6 : Hid (Flds w6 a6 n (nmOf (listOf Nm K n)) (kdOf (listOf Nm K n))) := f6
       have R6 : Hid (Rd w6 _ p5 h5 v5 (encS S n Nm K) (encS S n Nm K).length) := t6.1
       have L6 : Hid (Below W.heap.size W w6) := L5.out.trans ((Took.below HR5.out S5.out t6).mono S4.out)
       have hA7 : Below w6.heap.size w6 (w6.alloc (schO S (.slice a6 n c6))) := (Below.refl _ _).alloc (Nat.le_refl _) _
       have hn6 : n ≤ 16 := (chkZ_ok HCK.out).1
       clear t6 o6 f6 HR5 L5 S4 S5)
    | (go_at_call 22
       refine (rend_done (R6.out.later hA7) rfl).mono ?_
       rintro e w7 ⟨rfl, hB7⟩
       have M7 : Hid (Below w6.heap.size w6 w7) := bt hA7 hB7
       have L7 : Hid (Below W.heap.size W w7) := bt L6.out M7.out
       have z := (Box2.new 25 w6 (.string S) (.slice a6 n c6)).cells
       have z0 := cell_later z.1 hB7
       have z1 := cell_later z.2 hB7
       clear z hB7
       have x0 := cell_later HXC0.out.1 L7.out
       have x1 := cell_later HXC0.out.2 L7.out)
    | (go_at_call 14
       have cc := same_any S a6 n c6 (nmOf (listOf Nm K n)) (kdOf (listOf Nm K n)) S a n cap Nm K w7 (F6.out.later M7.out) (H0.out.later (bt hB0 L7.out)) (by omega)
       rw [HSM.out] at cc
       refine cc.mono ?_
       clear cc x0 x1 z0 z1
       rintro e w8 ⟨rfl, hB8⟩
       have L8 : Hid (Below W.heap.size W w8) := bt L7.out hB8
       clear L7 M7 L6 R6 F6 hA7 hB8))
  have hBj : Below w.heap.size w w8 := bt hB0 L8.out
  clear L8 hB0 HXC0 HSM HSZ
  obtain ⟨S5, P5, e5, q5, hg⟩ : ∃ S5 P5 e5 q5, getS zs 0 = ((S5, P5), e5, q5) := ⟨_, _, _, _, rfl⟩
  have HGv : Hid (getS zs 0 = ((S5, P5), e5, q5)) := hg
  have hsome := getS_enc zs H1.out.2.2.2.2.1 he
  rw [hg] at hsome he
  dsimp only at hsome he
  subst he
  obtain ⟨hr, hq, hen, hsz⟩ := hsome
  clear hg
  have hzl := H1.out.1
  have hcap := H1.out.2.1
  have hmx := H1.out.2.2.1
  unfold maxLen at hmx
  have hq0 : 0 < q5 := by
    have h1 : (encS S5 P5.length (nmOf P5) (kdOf P5)).length = q5 := by rw [← hen, List.length_take]; omega
    have h2 := (chkZ_ok hr).2.1
    unfold nameB fitsB at h2
    simp only [Bool.and_eq_true, decide_eq_true_eq] at h2
    simp only [encS, List.length_append, enc_length, bytesS_length] at h1
    omega
  obtain ⟨b1, o1, ha1, -⟩ := H1.out.2.2.2.2.2 (by omega)
  subst ha1
  have hql : (q5 : Int) ≤ (len1 : Int) := by omega
  have hqc : (q5 : Int) ≤ (cap1 : Int) := by omega
  have HS : Hid (strOf ([] ++ encS S5 P5.length (nmOf P5) (kdOf P5)) = strOf (zs.take q5)) := by rw [List.nil_append, hen]; rfl
  have Hr : Hid (chkZ S5 P5.length (nmOf P5) (kdOf P5) = 0) := hr
  have HZ5 : Hid (∀ x ∈ P5, x.1.size ≤ maxLen) := fun x hx => by have := hsz x hx; unfold maxLen; omega
  have HI : Hid (IsBytes w (some ⟨b1, o1, none⟩) q5 cap1 (zs.take q5)) := isBytes_first H1.out q5 (by omega)
  clear hr hq hen hzl hsz
  go_upto_region 14 with (first
    | (go_at_call 19
       refine (newReader_any _ _ _ _ w8.heap.size _ (H1.out.later hBj) (by have := HL.out; omega) (Nat.le_refl _)).mono ?_
       rintro e wa ⟨pa, ha, va, rfl, hRa, hBa⟩
       have HRa : Hid (Rd wa w8.heap.size pa ha va zs 0) := hRa
       clear hRa)
    | (go_at_call 21
       have cc := sget_any HRa.out
       rw [HGv.out] at cc
       dsimp only at cc
       refine cc.mono ?_
       clear cc
       rintro e wb ⟨ub, rfl, tb, ob⟩
       obtain ⟨ab, cb, eb, fb⟩ := rowF_flds ob rfl HZ5.out
       subst eb
       have hBb : Below w.heap.size w wb := bt hBj (hBa.trans (Took.below HRa.out hBa.size tb))
       have HRb : Hid (Rd wb w8.heap.size pa ha va zs q5) := tb.1
       have Fb : Hid (Flds wb ab P5.length (nmOf P5) (kdOf P5)) := fb
       clear ob tb fb))
  have hA7 : Below wb.heap.size wb (wb.alloc (schO S5 (.slice ab P5.length cb))) := (Below.refl _ _).alloc (Nat.le_refl _) _
  have hBc := bt hBb hA7
  have HRu : Hid (Rd (wb.alloc (schO S5 (.slice ab P5.length cb))) _ pa ha va zs q5) := HRb.out.later hA7
  have F7 : Hid (Flds (wb.alloc (schO S5 (.slice ab P5.length cb))) ab P5.length (nmOf P5) (kdOf P5)) := Fb.out.later hA7
  have X7 : Hid (Box2 25 (wb.alloc (schO S5 (.slice ab P5.length cb))) wb.heap.size (.string S5) (.slice ab P5.length cb)) := Box2.new _ wb _ _
  clear hA7 hBb HRb Fb hBj hBa HRa
  generalize wb.heap.size = bx at X7 ⊢
  generalize wb.alloc (schO S5 (.slice ab P5.length cb)) = W7 at hBc HRu F7 X7 ⊢
  go_upto_region 16 with (first
    | (go_at_call 17
       refine (newWriter_ok 65536 W7.heap.size W7 (by omega) (by omega) (Nat.le_refl _)).mono ?_
       rintro e w8 ⟨rfl, hW8, hB8⟩
       have HW8 : Hid (Wr w8 _ _ _ _ _ _) := hW8
       clear hW8
       obtain ⟨x0, x1⟩ := (X7.out.keep (keep_below hB8)).cells)
    | (go_at_call 18
       refine (sput_ok HW8.out hB8.size S5 ab P5.length cb (nmOf P5) (kdOf P5) (fun w' hb => F7.out.later (hB8.trans hb)) Hr.out (by have := encS_len S5 P5.length (nmOf P5) (kdOf P5) Hr.out; simp only [List.length_nil]; omega)).mono ?_
       rintro e wz ⟨rfl, ⟨v9, hW9⟩, hB9⟩
       have HW9 : Hid (Wr wz _ _ _ _ v9 ([] ++ encS S5 P5.length (nmOf P5) (kdOf P5))) := hW9
       have hB12 := hB8.trans hB9
       clear hW9 x0 x1))
  have HRu9 : Hid (Rd wz _ pa ha va zs q5) := HRu.out.later hB12
  have HXC : Hid (wz.cell? ⟨bx, 0, none⟩ = some (.string S5) ∧ wz.cell? ⟨bx, 1, none⟩ = some (.slice ab P5.length cb)) := (X7.out.keep (keep_below hB12)).cells
  have C4 : Hid (∀ d, Below wz.heap.size wz d → Calls Try.prog 10 #[schV S5 (.slice ab P5.length cb)] d fun e w' => e = .returned (.int .i64 0) ∧ Below d.heap.size d w') := fun d hd => by
    have cc := check_any S5 ab P5.length cb (nmOf P5) (kdOf P5) d ((F7.out.later hB12).later hd)
    rwa [Hr.out] at cc
  have hB13 := bt hBc hB12
  have HI9 : Hid (IsBytes wz (some ⟨b1, o1, none⟩) q5 cap1 (zs.take q5)) := HI.out.later hB13
  clear HRu HW8 hB8 hB9 hB12 hBc HI X7 F7
  refine wp_region_noPanic ?_
  refine wp_region_held_drew (S := fun w' => Below wz.heap.size wz w') (by kernel_rfl) ((Below.refl _ _).drew) (fun hHeld => ?_)
  have hT : Below wz.heap.size wz wz.drew := hHeld
  refine wpAnyH_take (i := 0) (oi := ⟨some 81, Op.move (Operand.tmp 16), 30, _, _, _⟩) (v := ?v0okfine) rfl (by kernel_rfl) (by kernel_rfl) (by kernel_rfl) (fun _ _ _ h => h) (Or.inl ⟨by rfl, ?hy0okfine⟩) hHeld ?rest0okfine
  case hy0okfine => intro w9 hSw; go_simp; (try with_reducible rfl)
  try simp only [Act.put, List.setIfInBounds_toArray, List.set_cons_zero, List.set_cons_succ]
  refine wpAnyH_take (i := 1) (oi := ⟨some 82, Op.binOp BinOp.eql 30 (Operand.tmp 81) (Operand.const (Value.int IntKind.i64 0)) 30, 4, _, _, _⟩) (v := ?v1okfine) rfl (by kernel_rfl) (by kernel_rfl) (by kernel_rfl) (fun _ _ _ h => h) (Or.inl ⟨by rfl, ?hy1okfine⟩) hHeld ?rest1okfine
  case hy1okfine => intro w9 hSw; go_simp; (try with_reducible rfl)
  try simp only [Act.put, List.setIfInBounds_toArray, List.set_cons_zero, List.set_cons_succ]
  refine wpAnyH_take (i := 2) (oi := ⟨some 83, Op.move (Operand.tmp 82), 4, _, _, _⟩) (v := ?v2okfine) rfl (by kernel_rfl) (by kernel_rfl) (by kernel_rfl) (fun _ _ _ h => h) (Or.inl ⟨by rfl, ?hy2okfine⟩) hHeld ?rest2okfine
  case hy2okfine => intro w9 hSw; go_simp; (try with_reducible rfl)
  try simp only [Act.put, List.setIfInBounds_toArray, List.set_cons_zero, List.set_cons_succ]
  refine wpAnyH_take (i := 3) (oi := ⟨some 84, Op.load 25 (Operand.tmp 12), 25, _, _, _⟩) (v := ?v3okfine) rfl (by kernel_rfl) (by kernel_rfl) (by kernel_rfl) (fun _ _ _ h => h) (Or.inl ⟨by rfl, ?hy3okfine⟩) hHeld ?rest3okfine
  case hy3okfine => intro w9 hSw; have c0 := cell_later HXC.out.1 hSw; have c1 := cell_later HXC.out.2 hSw; go_simp; (try with_reducible rfl)
  try simp only [Act.put, List.setIfInBounds_toArray, List.set_cons_zero, List.set_cons_succ]
  refine wpAnyH_ready (rs := [4]) (by kernel_rfl) (by simp) ?_
  refine AllReadyH.cons (o := ⟨some 85, Op.call { callee := Callee.value (Operand.func 10), args := #[Operand.tmp 84], argTypes := #[25] }, 30, _, _, _⟩) rfl (fun K hK => ?_) AllReadyH.nil
  go_simp
  refine (C4.out _ hHeld).mono ?_
  rintro e x4 ⟨rfl, hN4⟩
  go_wp2_with fail
  have hT4 : Below wz.heap.size wz x4 := hT.trans (hN4.mono hT.size)
  refine hK.out _ _ (hHeld.trans (hN4.mono hHeld.size)) (fun _ => held_up (S' := fun w' => Below x4.heap.size x4 w') (fun w' h' => (hHeld.trans (hN4.mono hHeld.size)).trans (h'.mono (Nat.le_trans hHeld.size hN4.size))) _ _ _ _ ?_)
  clear hK K hHeld hT
  have hT : Below wz.heap.size wz x4 := hT4
  have hHeld : Below x4.heap.size x4 x4 := Below.refl _ _
  clear hT4 hN4
  try simp only [Act.put, List.setIfInBounds_toArray, List.set_cons_zero, List.set_cons_succ]
  refine wpAnyH_take (i := 5) (oi := ⟨some 86, Op.binOp BinOp.eql 30 (Operand.tmp 85) (Operand.const (Value.int IntKind.i64 0)) 30, 4, _, _, _⟩) (v := ?v5okfine) rfl (by kernel_rfl) (by kernel_rfl) (by kernel_rfl) (fun _ _ _ h => h) (Or.inl ⟨by rfl, ?hy5okfine⟩) hHeld ?rest5okfine
  case hy5okfine => intro w9 hSw; go_simp; (try with_reducible rfl)
  try simp only [Act.put, List.setIfInBounds_toArray, List.set_cons_zero, List.set_cons_succ]
  refine wpAnyH_take (i := 6) (oi := ⟨some 87, Op.pick (Operand.tmp 83) (Operand.tmp 86) (Operand.const (Value.bool false)), 4, _, _, _⟩) (v := ?v6okfine) rfl (by kernel_rfl) (by kernel_rfl) (by kernel_rfl) (fun _ _ _ h => h) (Or.inl ⟨by rfl, ?hy6okfine⟩) hHeld ?rest6okfine
  case hy6okfine => intro w9 hSw; go_simp; (try with_reducible rfl)
  try simp only [Act.put, List.setIfInBounds_toArray, List.set_cons_zero, List.set_cons_succ]
  refine wpAnyH_take (i := 7) (oi := ⟨some 88, Op.move (Operand.tmp 87), 4, _, _, _⟩) (v := ?v7okfine) rfl (by kernel_rfl) (by kernel_rfl) (by kernel_rfl) (fun _ _ _ h => h) (Or.inl ⟨by rfl, ?hy7okfine⟩) hHeld ?rest7okfine
  case hy7okfine => intro w9 hSw; go_simp; (try with_reducible rfl)
  try simp only [Act.put, List.setIfInBounds_toArray, List.set_cons_zero, List.set_cons_succ]
  refine wpAnyH_take (i := 8) (oi := ⟨some 89, Op.move (Operand.tmp 11), 43, _, _, _⟩) (v := ?v8okfine) rfl (by kernel_rfl) (by kernel_rfl) (by kernel_rfl) (fun _ _ _ h => h) (Or.inl ⟨by rfl, ?hy8okfine⟩) hHeld ?rest8okfine
  case hy8okfine => intro w9 hSw; go_simp; (try with_reducible rfl)
  try simp only [Act.put, List.setIfInBounds_toArray, List.set_cons_zero, List.set_cons_succ]
  refine wpAnyH_take (i := 10) (oi := ⟨some 91, Op.move (Operand.tmp 1), 38, _, _, _⟩) (v := ?v10okfine) rfl (by kernel_rfl) (by kernel_rfl) (by kernel_rfl) (fun _ _ _ h => h) (Or.inl ⟨by rfl, ?hy10okfine⟩) hHeld ?rest10okfine
  case hy10okfine => intro w9 hSw; go_simp; (try with_reducible rfl)
  try simp only [Act.put, List.setIfInBounds_toArray, List.set_cons_zero, List.set_cons_succ]
  refine wpAnyH_take (i := 11) (oi := ⟨some 92, Op.call { callee := Callee.builtin Builtin.len, args := #[Operand.tmp 91], argTypes := #[38] }, 3, _, _, _⟩) (v := ?v11okfine) rfl (by kernel_rfl) (by kernel_rfl) (by kernel_rfl) (fun _ _ _ h => h) (Or.inl ⟨by rfl, ?hy11okfine⟩) hHeld ?rest11okfine
  case hy11okfine => intro w9 hSw; go_simp; (try with_reducible rfl)
  try simp only [Act.put, List.setIfInBounds_toArray, List.set_cons_zero, List.set_cons_succ]
  refine wpAnyH_ready (rs := [9]) (by kernel_rfl) (by simp) ?_
  refine AllReadyH.cons (o := ⟨some 90, Op.call { callee := Callee.value (Operand.func 23), args := #[Operand.tmp 89], argTypes := #[43] }, 3, _, _, _⟩) rfl (fun K hK => ?_) AllReadyH.nil
  go_simp
  refine (rat_any (HRu9.out.later hT)).mono ?_
  rintro e x9 ⟨rfl, hx9⟩
  replace hx9 := hx9.symm
  subst hx9
  go_wp2_with fail
  refine hK.out _ _ hHeld (fun _ => ?_)
  clear hK K
  try simp only [Act.put, List.setIfInBounds_toArray, List.set_cons_zero, List.set_cons_succ]
  refine wpAnyH_take (i := 12) (oi := ⟨some 93, Op.binOp BinOp.leq 3 (Operand.tmp 90) (Operand.tmp 92) 3, 4, _, _, _⟩) (v := ?v12okfine) rfl (by kernel_rfl) (by kernel_rfl) (by kernel_rfl) (fun _ _ _ h => h) (Or.inl ⟨by rfl, ?hy12okfine⟩) hHeld ?rest12okfine
  case hy12okfine => intro w9 hSw; go_simp; (try with_reducible rfl)
  try simp only [Act.put, List.setIfInBounds_toArray, List.set_cons_zero, List.set_cons_succ]
  refine wpAnyH_take (i := 13) (oi := ⟨some 94, Op.pick (Operand.tmp 88) (Operand.tmp 93) (Operand.const (Value.bool false)), 4, _, _, _⟩) (v := ?v13okfine) rfl (by kernel_rfl) (by kernel_rfl) (by kernel_rfl) (fun _ _ _ h => h) (Or.inl ⟨by rfl, ?hy13okfine⟩) hHeld ?rest13okfine
  case hy13okfine => intro w9 hSw; go_simp; (try with_reducible rfl)
  try simp only [Act.put, List.setIfInBounds_toArray, List.set_cons_zero, List.set_cons_succ]
  refine wpAnyH_take (i := 14) (oi := ⟨some 95, Op.move (Operand.tmp 94), 4, _, _, _⟩) (v := ?v14okfine) rfl (by kernel_rfl) (by kernel_rfl) (by kernel_rfl) (fun _ _ _ h => h) (Or.inl ⟨by rfl, ?hy14okfine⟩) hHeld ?rest14okfine
  case hy14okfine => intro w9 hSw; go_simp; (try with_reducible rfl)
  try simp only [Act.put, List.setIfInBounds_toArray, List.set_cons_zero, List.set_cons_succ]
  refine wpAnyH_take (i := 15) (oi := ⟨some 96, Op.move (Operand.tmp 14), 39, _, _, _⟩) (v := ?v15okfine) rfl (by kernel_rfl) (by kernel_rfl) (by kernel_rfl) (fun _ _ _ h => h) (Or.inl ⟨by rfl, ?hy15okfine⟩) hHeld ?rest15okfine
  case hy15okfine => intro w9 hSw; go_simp; (try with_reducible rfl)
  try simp only [Act.put, List.setIfInBounds_toArray, List.set_cons_zero, List.set_cons_succ]
  refine wpAnyH_take (i := 18) (oi := ⟨some 99, Op.move (Operand.tmp 1), 38, _, _, _⟩) (v := ?v18okfine) rfl (by kernel_rfl) (by kernel_rfl) (by kernel_rfl) (fun _ _ _ h => h) (Or.inl ⟨by rfl, ?hy18okfine⟩) hHeld ?rest18okfine
  case hy18okfine => intro w9 hSw; go_simp; (try with_reducible rfl)
  try simp only [Act.put, List.setIfInBounds_toArray, List.set_cons_zero, List.set_cons_succ]
  refine wpAnyH_take (i := 19) (oi := ⟨some 100, Op.move (Operand.tmp 11), 43, _, _, _⟩) (v := ?v19okfine) rfl (by kernel_rfl) (by kernel_rfl) (by kernel_rfl) (fun _ _ _ h => h) (Or.inl ⟨by rfl, ?hy19okfine⟩) hHeld ?rest19okfine
  case hy19okfine => intro w9 hSw; go_simp; (try with_reducible rfl)
  try simp only [Act.put, List.setIfInBounds_toArray, List.set_cons_zero, List.set_cons_succ]
  refine wpAnyH_ready (rs := [16]) (by kernel_rfl) (by simp) ?_
  refine AllReadyH.cons (o := ⟨some 97, Op.call { callee := Callee.value (Operand.func 20), args := #[Operand.tmp 96], argTypes := #[39] }, 38, _, _, _⟩) rfl (fun K hK => ?_) AllReadyH.nil
  go_simp
  refine (wdone_any (HW9.out.later hT)).mono ?_
  rintro e x16 ⟨u16, rfl, ho16, hN16⟩
  go_wp2_with fail
  have hT16 : Below wz.heap.size wz x16 := hT.trans (hN16.mono hT.size)
  refine hK.out _ _ (hHeld.trans (hN16.mono hHeld.size)) (fun _ => held_up (S' := fun w' => Below x16.heap.size x16 w') (fun w' h' => (hHeld.trans (hN16.mono hHeld.size)).trans (h'.mono (Nat.le_trans hHeld.size hN16.size))) _ _ _ _ ?_)
  clear hK K hHeld hT
  have hT : Below wz.heap.size wz x16 := hT16
  have hHeld : Below x16.heap.size x16 x16 := Below.refl _ _
  clear hT16 hN16
  try simp only [Act.put, List.setIfInBounds_toArray, List.set_cons_zero, List.set_cons_succ]
  have HO16 : Hid (World.ownsRow _ _ _ _ _ _ _) := ho16
  clear ho16
  refine wpAnyH_take (i := 17) (oi := ⟨some 98, Op.convert 38 9 (Operand.tmp 97), 9, _, _, _⟩) (v := ?v17okfine) rfl (by kernel_rfl) (by kernel_rfl) (by kernel_rfl) (fun _ _ _ h => h) (Or.inl ⟨by rfl, ?hy17okfine⟩) hHeld ?rest17okfine
  case hy17okfine => intro w9 hSw; have c17 := conv_own (own_below HO16.out hSw); rw [HS.out] at c17; go_simp; (try with_reducible rfl)
  try simp only [Act.put, List.setIfInBounds_toArray, List.set_cons_zero, List.set_cons_succ]
  refine wpAnyH_ready (rs := [20]) (by kernel_rfl) (by simp) ?_
  refine AllReadyH.cons (o := ⟨some 101, Op.call { callee := Callee.value (Operand.func 23), args := #[Operand.tmp 100], argTypes := #[43] }, 3, _, _, _⟩) rfl (fun K hK => ?_) AllReadyH.nil
  go_simp
  refine (rat_any (HRu9.out.later hT)).mono ?_
  rintro e x20 ⟨rfl, hx20⟩
  replace hx20 := hx20.symm
  subst hx20
  go_wp2_with fail
  refine hK.out _ _ hHeld (fun _ => ?_)
  clear hK K
  try simp only [Act.put, List.setIfInBounds_toArray, List.set_cons_zero, List.set_cons_succ]
  refine wpAnyH_take (i := 21) (oi := ⟨some 102, Op.slice 38 (Operand.tmp 99) none (some (Operand.tmp 101)) none, 38, _, _, _⟩) (v := ?v21okfine) rfl (by kernel_rfl) (by kernel_rfl) (by kernel_rfl) (fun _ _ _ h => h) (Or.inl ⟨by rfl, ?hy21okfine⟩) hHeld ?rest21okfine
  case hy21okfine => intro w9 hSw; go_simp; (try with_reducible rfl)
  try simp only [Act.put, List.setIfInBounds_toArray, List.set_cons_zero, List.set_cons_succ]
  refine wpAnyH_take (i := 22) (oi := ⟨some 103, Op.convert 38 9 (Operand.tmp 102), 9, _, _, _⟩) (v := ?v22okfine) rfl (by kernel_rfl) (by kernel_rfl) (by kernel_rfl) (fun _ _ _ h => h) (Or.inl ⟨by rfl, ?hy22okfine⟩) hHeld ?rest22okfine
  case hy22okfine => intro w9 hSw; have c22 := conv_in (HI9.out.later (hT.trans (hSw.mono hT.size))); go_simp; (try with_reducible rfl)
  try simp only [Act.put, List.setIfInBounds_toArray, List.set_cons_zero, List.set_cons_succ]
  refine wpAnyH_take (i := 23) (oi := ⟨some 104, Op.binOp BinOp.eql 9 (Operand.tmp 98) (Operand.tmp 103) 9, 4, _, _, _⟩) (v := ?v23okfine) rfl (by kernel_rfl) (by kernel_rfl) (by kernel_rfl) (fun _ _ _ h => h) (Or.inl ⟨by rfl, ?hy23okfine⟩) hHeld ?rest23okfine
  case hy23okfine => intro w9 hSw; go_simp; (try with_reducible rfl)
  try simp only [Act.put, List.setIfInBounds_toArray, List.set_cons_zero, List.set_cons_succ]
  refine wpAnyH_take (i := 24) (oi := ⟨some 105, Op.pick (Operand.tmp 95) (Operand.tmp 104) (Operand.const (Value.bool false)), 4, _, _, _⟩) (v := ?v24okfine) rfl (by kernel_rfl) (by kernel_rfl) (by kernel_rfl) (fun _ _ _ h => h) (Or.inl ⟨by rfl, ?hy24okfine⟩) hHeld ?rest24okfine
  case hy24okfine => intro w9 hSw; go_simp; (try with_reducible rfl)
  try simp only [Act.put, List.setIfInBounds_toArray, List.set_cons_zero, List.set_cons_succ]
  refine wpAnyH_take (i := 25) (oi := ⟨some 106, Op.move (Operand.tmp 105), 4, _, _, _⟩) (v := ?v25okfine) rfl (by kernel_rfl) (by kernel_rfl) (by kernel_rfl) (fun _ _ _ h => h) (Or.inl ⟨by rfl, ?hy25okfine⟩) hHeld ?rest25okfine
  case hy25okfine => intro w9 hSw; go_simp; (try with_reducible rfl)
  try simp only [Act.put, List.setIfInBounds_toArray, List.set_cons_zero, List.set_cons_succ]
  refine wpAnyH_ready (rs := [26]) (by kernel_rfl) (by simp) ?_
  refine AllReadyH.cons (o := ⟨some 107, Op.call { callee := Callee.value (Operand.func 16), args := #[], argTypes := #[] }, 4, _, _, _⟩) rfl (fun K hK => ?_) AllReadyH.nil
  go_simp
  refine (awake_any _).mono ?_
  rintro e x26 ⟨rfl, hN26⟩
  go_wp2_with fail
  have hT26 : Below wz.heap.size wz x26 := hT.trans (hN26.mono hT.size)
  refine hK.out _ _ (hHeld.trans (hN26.mono hHeld.size)) (fun _ => held_up (S' := fun w' => Below x26.heap.size x26 w') (fun w' h' => (hHeld.trans (hN26.mono hHeld.size)).trans (h'.mono (Nat.le_trans hHeld.size hN26.size))) _ _ _ _ ?_)
  clear hK K hHeld hT
  have hT : Below wz.heap.size wz x26 := hT26
  have hHeld : Below x26.heap.size x26 x26 := Below.refl _ _
  clear hT26 hN26
  try simp only [Act.put, List.setIfInBounds_toArray, List.set_cons_zero, List.set_cons_succ]
  refine wpAnyH_take (i := 27) (oi := ⟨some 108, Op.pick (Operand.tmp 106) (Operand.tmp 107) (Operand.const (Value.bool false)), 4, _, _, _⟩) (v := ?v27okfine) rfl (by kernel_rfl) (by kernel_rfl) (by kernel_rfl) (fun _ _ _ h => h) (Or.inl ⟨by rfl, ?hy27okfine⟩) hHeld ?rest27okfine
  case hy27okfine => intro w9 hSw; go_simp; (try with_reducible rfl)
  try simp only [Act.put, List.setIfInBounds_toArray, List.set_cons_zero, List.set_cons_succ]
  refine wpAnyH_take (i := 28) (oi := ⟨some 4, Op.assign (Operand.tmp 108), 4, _, _, _⟩) (v := ?v28okfine) rfl (by kernel_rfl) (by kernel_rfl) (by kernel_rfl) (fun _ _ _ h => h) (Or.inl ⟨by rfl, ?hy28okfine⟩) hHeld ?rest28okfine
  case hy28okfine => intro w9 hSw; go_simp; (try with_reducible rfl)
  try simp only [Act.put, List.setIfInBounds_toArray, List.set_cons_zero, List.set_cons_succ]
  refine wpAnyH_done (by kernel_rfl) ?_ _
  refine NoPanic.normal ?_
  go_wp2
  go_ret
  exact ⟨rfl, hB13.trans (hT.mono hB13.size)⟩
theorem schemaBack_walk (S : ByteArray) (a : Option Addr) (n cap : Nat) (Nm : Nat → ByteArray) (K : Nat → Int) (a1 : Option Addr) (len1 cap1 : Nat) (zs : List Int) (w : World) (h0 : Flds w a n Nm K) (h1 : IsBytes w a1 len1 cap1 zs) (hl : len1 ≤ 140737488351232) :
    Calls Try.prog 4 #[schV S (.slice a n cap), .slice a1 len1 cap1] w fun e w' => e = .returned (.bool true) ∧ Below w.heap.size w w' := by
  by_cases hc : chkZ S n Nm K = 0
  · by_cases he : (getS zs 0).2.1 = 0
    · exact schemaBack_ok_fine S a n cap Nm K a1 len1 cap1 zs w h0 h1 hl hc he
    · exact schemaBack_ok_err S a n cap Nm K a1 len1 cap1 zs w h0 h1 hl hc he
  · by_cases he : (getS zs 0).2.1 = 0
    · exact schemaBack_no_fine S a n cap Nm K a1 len1 cap1 zs w h0 h1 hl _ rfl hc he
    · exact schemaBack_no_err S a n cap Nm K a1 len1 cap1 zs w h0 h1 hl _ rfl hc he
end Go.Proofs.Ytdaldnpajihdlaa
