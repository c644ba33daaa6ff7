/-
  SchemaTells' walk (P7.1): what is told of schemas, a schema and a name is what the document tells.
-/
import Derived.Test.YtdaldnpajihdlaaSchRefBook
import Derived.Deep.RegionHeld3
namespace Go.Proofs.Ytdaldnpajihdlaa
open Go.RowKit

/-- Find and the document's tell the same. -/
theorem both_find (a : Option Addr) (n cap : Nat) (Nm : Nat → ByteArray) (V : Nat → Value) (s : ByteArray) (w : World) (H : Row2 w a n Nm V) (hn : n ≤ 9223372036854775807) :
    ∃ (i : Int) (b : Bool), (∀ d, Below w.heap.size w d → Calls Try.prog 6 #[.slice a n cap, .string s] d fun e w' => e = .returned (.tuple #[.int .i64 i, .bool b]) ∧ Below d.heap.size d w') ∧
      ∀ d, Below w.heap.size w d → Calls Try.prog 7 #[.slice a n cap, .string s] d fun e w' => e = .returned (.tuple #[.int .i64 i, .bool b]) ∧ Below d.heap.size d w' := by
  rcases first_or Nm s n with ⟨i, h1, h2, h3⟩ | h
  · exact ⟨i, true, fun d hd => find_some a n cap i Nm V s d (H.later hd) hn h1 h2 h3, fun d hd => refFind_some a n cap i Nm V s d (H.later hd) hn h1 h2 h3⟩
  · exact ⟨0, false, fun d hd => find_none a n cap Nm V s d (H.later hd) hn h, fun d hd => refFind_none a n cap Nm V s d (H.later hd) hn h⟩
/-- Field and the document's tell the same. -/
theorem both_field (S : ByteArray) (a : Option Addr) (n cap : Nat) (Nm : Nat → ByteArray) (K : Nat → Int) (s : ByteArray) (w : World) (H : Flds w a n Nm K) (hn : n ≤ 9223372036854775807) :
    ∃ (i k : Int) (b : Bool), (∀ d, Below w.heap.size w d → Calls Try.prog 8 #[schV S (.slice a n cap), .string s] d fun e w' => e = .returned (.tuple #[.int .i64 i, .int .i64 k, .bool b]) ∧ Below d.heap.size d w') ∧
      ∀ d, Below w.heap.size w d → Calls Try.prog 9 #[schV S (.slice a n cap), .string s] d fun e w' => e = .returned (.tuple #[.int .i64 i, .int .i64 k, .bool b]) ∧ Below d.heap.size d w' := by
  rcases first_or Nm s n with ⟨i, h1, h2, h3⟩ | h
  · exact ⟨i, K i, true, fun d hd => field_some S a n cap i Nm K s d (H.later hd) hn h1 h2 h3, fun d hd => refField_some S a n cap i Nm K s d (H.later hd) hn h1 h2 h3⟩
  · exact ⟨0, 0, false, fun d hd => field_none S a n cap Nm K s d (H.later hd) hn h, fun d hd => refField_none S a n cap Nm K s d (H.later hd) hn h⟩
theorem same_self (S : ByteArray) (n : Nat) (Nm : Nat → ByteArray) (K : Nat → Int) : sameB S n Nm K S n Nm K = true := by
  unfold sameB
  rw [(eqTo_at Nm K Nm K n).2 fun j hj => ⟨rfl, rfl⟩]
  simp

set_option maxRecDepth 100000 in
set_option maxHeartbeats 4000000 in
theorem schemaTells_walk (a : Option Addr) (n cap : Nat) (Q : Nat → Sch) (S : ByteArray) (fa : Option Addr) (fl fc : Nat) (fn : Nat → ByteArray) (fk : Nat → Int) (s : ByteArray) (w : World) (H : Schs w a n Q) (hn : n ≤ 9223372036854775807) (H2 : Flds w fa fl fn fk) (hfl : fl ≤ 9223372036854775807) (hS : S.size ≤ maxLen) :
    Calls Try.prog 3 #[.slice a n cap, schV S (.slice fa fl fc), .string s] w fun e w' => e = .returned (.bool true) ∧ Below w.heap.size w w' := by
  have hB0 : Below w.heap.size w (w.alloc (schO S (.slice fa fl fc))) := (Below.refl _ _).alloc (Nat.le_refl _) _
  have HQ : Hid (Schs (w.alloc (schO S (.slice fa fl fc))) a n Q) := H.later hB0
  have HF : Hid (Flds (w.alloc (schO S (.slice fa fl fc))) fa fl fn fk) := H2.later hB0
  have HX0 : Hid ((w.alloc (schO S (.slice fa fl fc))).cell? ⟨w.heap.size, 0, none⟩ = some (.string S) ∧ (w.alloc (schO S (.slice fa fl fc))).cell? ⟨w.heap.size, 1, none⟩ = some (.slice fa fl fc)) := (Box2.new 25 w (.string S) (.slice fa fl fc)).cells
  have HS : Hid (S.size ≤ maxLen) := hS
  have HFL : Hid (fl ≤ 9223372036854775807) := hfl
  clear H H2 hS hfl
  go_enter Try.func3, Try.ntmps3
  go_upto_region 1 with fail
  obtain ⟨W, hW⟩ : ∃ W, W = (w.alloc (schO S (.slice fa fl fc))) := ⟨_, rfl⟩
  obtain ⟨bs, hbs⟩ : ∃ bs, bs = w.heap.size := ⟨_, rfl⟩
  rw [← hW, ← hbs] at HX0
  rw [← hW] at hB0 HQ HF
  rw [← hW, ← hbs]
  clear hW hbs
  obtain ⟨i, b, c1, c2⟩ := both_find a n cap _ _ s W HQ.out.1 hn
  obtain ⟨j, k, g, c3, c4⟩ := both_field S fa fl fc fn fk s W HF.out HFL.out
  have D1 : Hid (∀ d, _ → Calls Try.prog 6 _ d _) := c1
  have D2 : Hid (∀ d, _ → Calls Try.prog 7 _ d _) := c2
  have D3 : Hid (∀ d, _ → Calls Try.prog 8 _ d _) := c3
  have D4 : Hid (∀ d, _ → Calls Try.prog 9 _ d _) := c4
  clear c1 c2 c3 c4
  go_upto_region 5 with (first
    | (go_at_call 6
       refine (D1.out _ (Below.refl _ _)).mono ?_
       rintro e w1 ⟨rfl, l1⟩
       have L1 : Hid (Below W.heap.size W w1) := l1
       clear l1)
    | (go_at_call 7
       refine (D2.out _ L1.out).mono ?_
       rintro e w2 ⟨rfl, l2⟩
       have L2 : Hid (Below W.heap.size W w2) := bt L1.out l2
       clear l2 L1
       have x0 := cell_later HX0.out.1 L2.out
       have x1 := cell_later HX0.out.2 L2.out)
    | (go_at_call 8
       refine (D3.out _ L2.out).mono ?_
       rintro e w3 ⟨rfl, l3⟩
       have L3 : Hid (Below W.heap.size W w3) := bt L2.out l3
       clear l3 L2 x0 x1
       have x0 := cell_later HX0.out.1 L3.out
       have x1 := cell_later HX0.out.2 L3.out)
    | (go_at_call 9
       refine (D4.out _ L3.out).mono ?_
       rintro e wz ⟨rfl, l4⟩
       have L4 : Hid (Below W.heap.size W wz) := bt L3.out l4
       clear l4 L3 x0 x1))
  have HXC : Hid (wz.cell? ⟨bs, 0, none⟩ = some (.string S) ∧ wz.cell? ⟨bs, 1, none⟩ = some (.slice fa fl fc)) := ⟨cell_later HX0.out.1 L4.out, cell_later HX0.out.2 L4.out⟩
  have C1 : Hid (∀ d, Below wz.heap.size wz d → Calls Try.prog 10 #[schV S (.slice fa fl fc)] d fun e w' => e = .returned (.int .i64 (chkZ S fl fn fk)) ∧ Below d.heap.size d w') := fun d hd => check_any S fa fl fc fn fk d ((HF.out.later L4.out).later hd)
  have C2 : Hid (∀ d, Below wz.heap.size wz d → Calls Try.prog 11 #[schV S (.slice fa fl fc)] d fun e w' => e = .returned (.int .i64 (chkZ S fl fn fk)) ∧ Below d.heap.size d w') := fun d hd => refCheck_any S fa fl fc fn fk d ((HF.out.later L4.out).later hd) HS.out
  have C3 : Hid (∀ d, Below wz.heap.size wz d → Calls Try.prog 12 #[.slice a n cap] d fun e w' => e = .returned (.int .i64 (bookZ n Q)) ∧ Below d.heap.size d w') := fun d hd => book_any a n cap Q d ((HQ.out.later L4.out).later hd)
  have C4 : Hid (∀ d, Below wz.heap.size wz d → Calls Try.prog 13 #[.slice a n cap] d fun e w' => e = .returned (.int .i64 (bookZ n Q)) ∧ Below d.heap.size d w') := fun d hd => refBook_any a n cap Q d ((HQ.out.later L4.out).later hd)
  generalize chkZ S fl fn fk = yc at C1 C2
  generalize bookZ n Q = yb at C3 C4
  refine wp_region_noPanic ?_
  refine wp_region_held_drew (S := fun w' => Below wz.heap.size wz w') (by kernel_rfl) ((Below.refl _ _).drew) (fun hHeld => ?_)
  have hT : Below wz.heap.size wz wz.drew := hHeld
  refine wpAnyH_take (i := 0) (oi := ⟨some 44, Op.move (Operand.tmp 7), 3, _, _, _⟩) (v := ?v0) rfl (by kernel_rfl) (by kernel_rfl) (by kernel_rfl) (fun _ _ _ h => h) (Or.inl ⟨by rfl, ?hy0⟩) hHeld ?rest0
  case hy0 => intro w9 hSw; go_simp; (try with_reducible rfl)
  try simp only [Act.put, List.setIfInBounds_toArray, List.set_cons_zero, List.set_cons_succ]
  refine wpAnyH_take (i := 1) (oi := ⟨some 45, Op.move (Operand.tmp 9), 3, _, _, _⟩) (v := ?v1) rfl (by kernel_rfl) (by kernel_rfl) (by kernel_rfl) (fun _ _ _ h => h) (Or.inl ⟨by rfl, ?hy1⟩) hHeld ?rest1
  case hy1 => intro w9 hSw; go_simp; (try with_reducible rfl)
  try simp only [Act.put, List.setIfInBounds_toArray, List.set_cons_zero, List.set_cons_succ]
  refine wpAnyH_take (i := 2) (oi := ⟨some 46, Op.binOp BinOp.neq 3 (Operand.tmp 44) (Operand.tmp 45) 3, 4, _, _, _⟩) (v := ?v2) rfl (by kernel_rfl) (by kernel_rfl) (by kernel_rfl) (fun _ _ _ h => h) (Or.inl ⟨by rfl, ?hy2⟩) hHeld ?rest2
  case hy2 => intro w9 hSw; go_simp; (try with_reducible rfl)
  try simp only [Act.put, List.setIfInBounds_toArray, List.set_cons_zero, List.set_cons_succ]
  refine wpAnyH_take (i := 3) (oi := ⟨some 47, Op.move (Operand.tmp 46), 4, _, _, _⟩) (v := ?v3) rfl (by kernel_rfl) (by kernel_rfl) (by kernel_rfl) (fun _ _ _ h => h) (Or.inl ⟨by rfl, ?hy3⟩) hHeld ?rest3
  case hy3 => intro w9 hSw; go_simp; (try with_reducible rfl)
  try simp only [Act.put, List.setIfInBounds_toArray, List.set_cons_zero, List.set_cons_succ]
  refine wpAnyH_take (i := 4) (oi := ⟨some 48, Op.move (Operand.tmp 8), 4, _, _, _⟩) (v := ?v4) rfl (by kernel_rfl) (by kernel_rfl) (by kernel_rfl) (fun _ _ _ h => h) (Or.inl ⟨by rfl, ?hy4⟩) hHeld ?rest4
  case hy4 => intro w9 hSw; go_simp; (try with_reducible rfl)
  try simp only [Act.put, List.setIfInBounds_toArray, List.set_cons_zero, List.set_cons_succ]
  refine wpAnyH_take (i := 5) (oi := ⟨some 49, Op.move (Operand.tmp 10), 4, _, _, _⟩) (v := ?v5) rfl (by kernel_rfl) (by kernel_rfl) (by kernel_rfl) (fun _ _ _ h => h) (Or.inl ⟨by rfl, ?hy5⟩) hHeld ?rest5
  case hy5 => intro w9 hSw; go_simp; (try with_reducible rfl)
  try simp only [Act.put, List.setIfInBounds_toArray, List.set_cons_zero, List.set_cons_succ]
  refine wpAnyH_take (i := 6) (oi := ⟨some 50, Op.binOp BinOp.neq 4 (Operand.tmp 48) (Operand.tmp 49) 4, 4, _, _, _⟩) (v := ?v6) rfl (by kernel_rfl) (by kernel_rfl) (by kernel_rfl) (fun _ _ _ h => h) (Or.inl ⟨by rfl, ?hy6⟩) hHeld ?rest6
  case hy6 => intro w9 hSw; go_simp; (try with_reducible rfl)
  try simp only [Act.put, List.setIfInBounds_toArray, List.set_cons_zero, List.set_cons_succ]
  refine wpAnyH_take (i := 7) (oi := ⟨some 51, Op.pick (Operand.tmp 47) (Operand.const (Value.bool true)) (Operand.tmp 50), 4, _, _, _⟩) (v := ?v7) rfl (by kernel_rfl) (by kernel_rfl) (by kernel_rfl) (fun _ _ _ h => h) (Or.inl ⟨by rfl, ?hy7⟩) hHeld ?rest7
  case hy7 => intro w9 hSw; go_simp; (try with_reducible rfl)
  try simp only [Act.put, List.setIfInBounds_toArray, List.set_cons_zero, List.set_cons_succ]
  refine wpAnyH_take (i := 8) (oi := ⟨some 52, Op.move (Operand.tmp 51), 4, _, _, _⟩) (v := ?v8) rfl (by kernel_rfl) (by kernel_rfl) (by kernel_rfl) (fun _ _ _ h => h) (Or.inl ⟨by rfl, ?hy8⟩) hHeld ?rest8
  case hy8 => intro w9 hSw; go_simp; (try with_reducible rfl)
  try simp only [Act.put, List.setIfInBounds_toArray, List.set_cons_zero, List.set_cons_succ]
  refine wpAnyH_take (i := 9) (oi := ⟨some 53, Op.move (Operand.tmp 11), 3, _, _, _⟩) (v := ?v9) rfl (by kernel_rfl) (by kernel_rfl) (by kernel_rfl) (fun _ _ _ h => h) (Or.inl ⟨by rfl, ?hy9⟩) hHeld ?rest9
  case hy9 => intro w9 hSw; go_simp; (try with_reducible rfl)
  try simp only [Act.put, List.setIfInBounds_toArray, List.set_cons_zero, List.set_cons_succ]
  refine wpAnyH_take (i := 10) (oi := ⟨some 54, Op.move (Operand.tmp 14), 3, _, _, _⟩) (v := ?v10) rfl (by kernel_rfl) (by kernel_rfl) (by kernel_rfl) (fun _ _ _ h => h) (Or.inl ⟨by rfl, ?hy10⟩) hHeld ?rest10
  case hy10 => intro w9 hSw; go_simp; (try with_reducible rfl)
  try simp only [Act.put, List.setIfInBounds_toArray, List.set_cons_zero, List.set_cons_succ]
  refine wpAnyH_take (i := 11) (oi := ⟨some 55, Op.binOp BinOp.neq 3 (Operand.tmp 53) (Operand.tmp 54) 3, 4, _, _, _⟩) (v := ?v11) rfl (by kernel_rfl) (by kernel_rfl) (by kernel_rfl) (fun _ _ _ h => h) (Or.inl ⟨by rfl, ?hy11⟩) hHeld ?rest11
  case hy11 => intro w9 hSw; go_simp; (try with_reducible rfl)
  try simp only [Act.put, List.setIfInBounds_toArray, List.set_cons_zero, List.set_cons_succ]
  refine wpAnyH_take (i := 12) (oi := ⟨some 56, Op.pick (Operand.tmp 52) (Operand.const (Value.bool true)) (Operand.tmp 55), 4, _, _, _⟩) (v := ?v12) rfl (by kernel_rfl) (by kernel_rfl) (by kernel_rfl) (fun _ _ _ h => h) (Or.inl ⟨by rfl, ?hy12⟩) hHeld ?rest12
  case hy12 => intro w9 hSw; go_simp; (try with_reducible rfl)
  try simp only [Act.put, List.setIfInBounds_toArray, List.set_cons_zero, List.set_cons_succ]
  refine wpAnyH_take (i := 13) (oi := ⟨some 57, Op.move (Operand.tmp 56), 4, _, _, _⟩) (v := ?v13) rfl (by kernel_rfl) (by kernel_rfl) (by kernel_rfl) (fun _ _ _ h => h) (Or.inl ⟨by rfl, ?hy13⟩) hHeld ?rest13
  case hy13 => intro w9 hSw; go_simp; (try with_reducible rfl)
  try simp only [Act.put, List.setIfInBounds_toArray, List.set_cons_zero, List.set_cons_succ]
  refine wpAnyH_take (i := 14) (oi := ⟨some 58, Op.move (Operand.tmp 12), 3, _, _, _⟩) (v := ?v14) rfl (by kernel_rfl) (by kernel_rfl) (by kernel_rfl) (fun _ _ _ h => h) (Or.inl ⟨by rfl, ?hy14⟩) hHeld ?rest14
  case hy14 => intro w9 hSw; go_simp; (try with_reducible rfl)
  try simp only [Act.put, List.setIfInBounds_toArray, List.set_cons_zero, List.set_cons_succ]
  refine wpAnyH_take (i := 15) (oi := ⟨some 59, Op.move (Operand.tmp 15), 3, _, _, _⟩) (v := ?v15) rfl (by kernel_rfl) (by kernel_rfl) (by kernel_rfl) (fun _ _ _ h => h) (Or.inl ⟨by rfl, ?hy15⟩) hHeld ?rest15
  case hy15 => intro w9 hSw; go_simp; (try with_reducible rfl)
  try simp only [Act.put, List.setIfInBounds_toArray, List.set_cons_zero, List.set_cons_succ]
  refine wpAnyH_take (i := 16) (oi := ⟨some 60, Op.binOp BinOp.neq 3 (Operand.tmp 58) (Operand.tmp 59) 3, 4, _, _, _⟩) (v := ?v16) rfl (by kernel_rfl) (by kernel_rfl) (by kernel_rfl) (fun _ _ _ h => h) (Or.inl ⟨by rfl, ?hy16⟩) hHeld ?rest16
  case hy16 => intro w9 hSw; go_simp; (try with_reducible rfl)
  try simp only [Act.put, List.setIfInBounds_toArray, List.set_cons_zero, List.set_cons_succ]
  refine wpAnyH_take (i := 17) (oi := ⟨some 61, Op.pick (Operand.tmp 57) (Operand.const (Value.bool true)) (Operand.tmp 60), 4, _, _, _⟩) (v := ?v17) rfl (by kernel_rfl) (by kernel_rfl) (by kernel_rfl) (fun _ _ _ h => h) (Or.inl ⟨by rfl, ?hy17⟩) hHeld ?rest17
  case hy17 => intro w9 hSw; go_simp; (try with_reducible rfl)
  try simp only [Act.put, List.setIfInBounds_toArray, List.set_cons_zero, List.set_cons_succ]
  refine wpAnyH_take (i := 18) (oi := ⟨some 62, Op.move (Operand.tmp 61), 4, _, _, _⟩) (v := ?v18) rfl (by kernel_rfl) (by kernel_rfl) (by kernel_rfl) (fun _ _ _ h => h) (Or.inl ⟨by rfl, ?hy18⟩) hHeld ?rest18
  case hy18 => intro w9 hSw; go_simp; (try with_reducible rfl)
  try simp only [Act.put, List.setIfInBounds_toArray, List.set_cons_zero, List.set_cons_succ]
  refine wpAnyH_take (i := 19) (oi := ⟨some 63, Op.move (Operand.tmp 13), 4, _, _, _⟩) (v := ?v19) rfl (by kernel_rfl) (by kernel_rfl) (by kernel_rfl) (fun _ _ _ h => h) (Or.inl ⟨by rfl, ?hy19⟩) hHeld ?rest19
  case hy19 => intro w9 hSw; go_simp; (try with_reducible rfl)
  try simp only [Act.put, List.setIfInBounds_toArray, List.set_cons_zero, List.set_cons_succ]
  refine wpAnyH_take (i := 20) (oi := ⟨some 64, Op.move (Operand.tmp 16), 4, _, _, _⟩) (v := ?v20) rfl (by kernel_rfl) (by kernel_rfl) (by kernel_rfl) (fun _ _ _ h => h) (Or.inl ⟨by rfl, ?hy20⟩) hHeld ?rest20
  case hy20 => intro w9 hSw; go_simp; (try with_reducible rfl)
  try simp only [Act.put, List.setIfInBounds_toArray, List.set_cons_zero, List.set_cons_succ]
  refine wpAnyH_take (i := 21) (oi := ⟨some 65, Op.binOp BinOp.neq 4 (Operand.tmp 63) (Operand.tmp 64) 4, 4, _, _, _⟩) (v := ?v21) rfl (by kernel_rfl) (by kernel_rfl) (by kernel_rfl) (fun _ _ _ h => h) (Or.inl ⟨by rfl, ?hy21⟩) hHeld ?rest21
  case hy21 => intro w9 hSw; go_simp; (try with_reducible rfl)
  try simp only [Act.put, List.setIfInBounds_toArray, List.set_cons_zero, List.set_cons_succ]
  refine wpAnyH_take (i := 22) (oi := ⟨some 66, Op.pick (Operand.tmp 62) (Operand.const (Value.bool true)) (Operand.tmp 65), 4, _, _, _⟩) (v := ?v22) rfl (by kernel_rfl) (by kernel_rfl) (by kernel_rfl) (fun _ _ _ h => h) (Or.inl ⟨by rfl, ?hy22⟩) hHeld ?rest22
  case hy22 => intro w9 hSw; go_simp; (try with_reducible rfl)
  try simp only [Act.put, List.setIfInBounds_toArray, List.set_cons_zero, List.set_cons_succ]
  refine wpAnyH_take (i := 23) (oi := ⟨some 67, Op.move (Operand.tmp 66), 4, _, _, _⟩) (v := ?v23) rfl (by kernel_rfl) (by kernel_rfl) (by kernel_rfl) (fun _ _ _ h => h) (Or.inl ⟨by rfl, ?hy23⟩) hHeld ?rest23
  case hy23 => intro w9 hSw; go_simp; (try with_reducible rfl)
  try simp only [Act.put, List.setIfInBounds_toArray, List.set_cons_zero, List.set_cons_succ]
  refine wpAnyH_take (i := 24) (oi := ⟨some 68, Op.load 25 (Operand.tmp 4), 25, _, _, _⟩) (v := ?v24) rfl (by kernel_rfl) (by kernel_rfl) (by kernel_rfl) (fun _ _ _ h => h) (Or.inl ⟨by rfl, ?hy24⟩) hHeld ?rest24
  case hy24 => intro w9 hSw; have c0 := cell_later HXC.out.1 hSw; have c1 := cell_later HXC.out.2 hSw; go_simp; (try with_reducible rfl)
  try simp only [Act.put, List.setIfInBounds_toArray, List.set_cons_zero, List.set_cons_succ]
  refine wpAnyH_take (i := 26) (oi := ⟨some 70, Op.load 25 (Operand.tmp 4), 25, _, _, _⟩) (v := ?v26) rfl (by kernel_rfl) (by kernel_rfl) (by kernel_rfl) (fun _ _ _ h => h) (Or.inl ⟨by rfl, ?hy26⟩) hHeld ?rest26
  case hy26 => intro w9 hSw; have c0 := cell_later HXC.out.1 hSw; have c1 := cell_later HXC.out.2 hSw; go_simp; (try with_reducible rfl)
  try simp only [Act.put, List.setIfInBounds_toArray, List.set_cons_zero, List.set_cons_succ]
  refine wpAnyH_ready (rs := [25]) (by kernel_rfl) (by simp) ?_
  refine AllReadyH.cons (o := ⟨some 69, Op.call { callee := Callee.value (Operand.func 10), args := #[Operand.tmp 68], argTypes := #[25] }, 30, _, _, _⟩) rfl (fun K hK => ?_) AllReadyH.nil
  go_simp
  refine (C1.out _ hHeld).mono ?_
  rintro e x25 ⟨rfl, hN25⟩
  go_wp2_with fail
  have hT25 : Below wz.heap.size wz x25 := hT.trans (hN25.mono hT.size)
  refine hK.out _ _ (hHeld.trans (hN25.mono hHeld.size)) (fun _ => held_up (S' := fun w' => Below x25.heap.size x25 w') (fun w' h' => (hHeld.trans (hN25.mono hHeld.size)).trans (h'.mono (Nat.le_trans hHeld.size hN25.size))) _ _ _ _ ?_)
  clear hK K hHeld hT
  have hT : Below wz.heap.size wz x25 := hT25
  have hHeld : Below x25.heap.size x25 x25 := Below.refl _ _
  clear hT25 hN25
  try simp only [Act.put, List.setIfInBounds_toArray, List.set_cons_zero, List.set_cons_succ]
  refine wpAnyH_ready (rs := [27]) (by kernel_rfl) (by simp) ?_
  refine AllReadyH.cons (o := ⟨some 71, Op.call { callee := Callee.value (Operand.func 11), args := #[Operand.tmp 70], argTypes := #[25] }, 3, _, _, _⟩) rfl (fun K hK => ?_) AllReadyH.nil
  go_simp
  refine (C2.out _ hT).mono ?_
  rintro e x27 ⟨rfl, hN27⟩
  go_wp2_with fail
  have hT27 : Below wz.heap.size wz x27 := hT.trans (hN27.mono hT.size)
  refine hK.out _ _ (hHeld.trans (hN27.mono hHeld.size)) (fun _ => held_up (S' := fun w' => Below x27.heap.size x27 w') (fun w' h' => (hHeld.trans (hN27.mono hHeld.size)).trans (h'.mono (Nat.le_trans hHeld.size hN27.size))) _ _ _ _ ?_)
  clear hK K hHeld hT
  have hT : Below wz.heap.size wz x27 := hT27
  have hHeld : Below x27.heap.size x27 x27 := Below.refl _ _
  clear hT27 hN27
  try simp only [Act.put, List.setIfInBounds_toArray, List.set_cons_zero, List.set_cons_succ]
  refine wpAnyH_take (i := 28) (oi := ⟨some 72, Op.binOp BinOp.neq 3 (Operand.tmp 69) (Operand.tmp 71) 3, 4, _, _, _⟩) (v := ?v28) rfl (by kernel_rfl) (by kernel_rfl) (by kernel_rfl) (fun _ _ _ h => h) (Or.inl ⟨by rfl, ?hy28⟩) hHeld ?rest28
  case hy28 => intro w9 hSw; go_simp; (try with_reducible rfl)
  try simp only [Act.put, List.setIfInBounds_toArray, List.set_cons_zero, List.set_cons_succ]
  refine wpAnyH_take (i := 29) (oi := ⟨some 73, Op.pick (Operand.tmp 67) (Operand.const (Value.bool true)) (Operand.tmp 72), 4, _, _, _⟩) (v := ?v29) rfl (by kernel_rfl) (by kernel_rfl) (by kernel_rfl) (fun _ _ _ h => h) (Or.inl ⟨by rfl, ?hy29⟩) hHeld ?rest29
  case hy29 => intro w9 hSw; go_simp; (try with_reducible rfl)
  try simp only [Act.put, List.setIfInBounds_toArray, List.set_cons_zero, List.set_cons_succ]
  refine wpAnyH_take (i := 30) (oi := ⟨some 74, Op.move (Operand.tmp 73), 4, _, _, _⟩) (v := ?v30) rfl (by kernel_rfl) (by kernel_rfl) (by kernel_rfl) (fun _ _ _ h => h) (Or.inl ⟨by rfl, ?hy30⟩) hHeld ?rest30
  case hy30 => intro w9 hSw; go_simp; (try with_reducible rfl)
  try simp only [Act.put, List.setIfInBounds_toArray, List.set_cons_zero, List.set_cons_succ]
  refine wpAnyH_take (i := 31) (oi := ⟨some 75, Op.move (Operand.tmp 0), 22, _, _, _⟩) (v := ?v31) rfl (by kernel_rfl) (by kernel_rfl) (by kernel_rfl) (fun _ _ _ h => h) (Or.inl ⟨by rfl, ?hy31⟩) hHeld ?rest31
  case hy31 => intro w9 hSw; go_simp; (try with_reducible rfl)
  try simp only [Act.put, List.setIfInBounds_toArray, List.set_cons_zero, List.set_cons_succ]
  refine wpAnyH_take (i := 33) (oi := ⟨some 77, Op.move (Operand.tmp 0), 22, _, _, _⟩) (v := ?v33) rfl (by kernel_rfl) (by kernel_rfl) (by kernel_rfl) (fun _ _ _ h => h) (Or.inl ⟨by rfl, ?hy33⟩) hHeld ?rest33
  case hy33 => intro w9 hSw; go_simp; (try with_reducible rfl)
  try simp only [Act.put, List.setIfInBounds_toArray, List.set_cons_zero, List.set_cons_succ]
  refine wpAnyH_ready (rs := [32]) (by kernel_rfl) (by simp) ?_
  refine AllReadyH.cons (o := ⟨some 76, Op.call { callee := Callee.value (Operand.func 12), args := #[Operand.tmp 75], argTypes := #[22] }, 30, _, _, _⟩) rfl (fun K hK => ?_) AllReadyH.nil
  go_simp
  refine (C3.out _ hT).mono ?_
  rintro e x32 ⟨rfl, hN32⟩
  go_wp2_with fail
  have hT32 : Below wz.heap.size wz x32 := hT.trans (hN32.mono hT.size)
  refine hK.out _ _ (hHeld.trans (hN32.mono hHeld.size)) (fun _ => held_up (S' := fun w' => Below x32.heap.size x32 w') (fun w' h' => (hHeld.trans (hN32.mono hHeld.size)).trans (h'.mono (Nat.le_trans hHeld.size hN32.size))) _ _ _ _ ?_)
  clear hK K hHeld hT
  have hT : Below wz.heap.size wz x32 := hT32
  have hHeld : Below x32.heap.size x32 x32 := Below.refl _ _
  clear hT32 hN32
  try simp only [Act.put, List.setIfInBounds_toArray, List.set_cons_zero, List.set_cons_succ]
  refine wpAnyH_ready (rs := [34]) (by kernel_rfl) (by simp) ?_
  refine AllReadyH.cons (o := ⟨some 78, Op.call { callee := Callee.value (Operand.func 13), args := #[Operand.tmp 77], argTypes := #[22] }, 3, _, _, _⟩) rfl (fun K hK => ?_) AllReadyH.nil
  go_simp
  refine (C4.out _ hT).mono ?_
  rintro e x34 ⟨rfl, hN34⟩
  go_wp2_with fail
  have hT34 : Below wz.heap.size wz x34 := hT.trans (hN34.mono hT.size)
  refine hK.out _ _ (hHeld.trans (hN34.mono hHeld.size)) (fun _ => held_up (S' := fun w' => Below x34.heap.size x34 w') (fun w' h' => (hHeld.trans (hN34.mono hHeld.size)).trans (h'.mono (Nat.le_trans hHeld.size hN34.size))) _ _ _ _ ?_)
  clear hK K hHeld hT
  have hT : Below wz.heap.size wz x34 := hT34
  have hHeld : Below x34.heap.size x34 x34 := Below.refl _ _
  clear hT34 hN34
  try simp only [Act.put, List.setIfInBounds_toArray, List.set_cons_zero, List.set_cons_succ]
  refine wpAnyH_take (i := 35) (oi := ⟨some 79, Op.binOp BinOp.neq 3 (Operand.tmp 76) (Operand.tmp 78) 3, 4, _, _, _⟩) (v := ?v35) rfl (by kernel_rfl) (by kernel_rfl) (by kernel_rfl) (fun _ _ _ h => h) (Or.inl ⟨by rfl, ?hy35⟩) hHeld ?rest35
  case hy35 => intro w9 hSw; go_simp; (try with_reducible rfl)
  try simp only [Act.put, List.setIfInBounds_toArray, List.set_cons_zero, List.set_cons_succ]
  refine wpAnyH_take (i := 36) (oi := ⟨some 80, Op.pick (Operand.tmp 74) (Operand.const (Value.bool true)) (Operand.tmp 79), 4, _, _, _⟩) (v := ?v36) rfl (by kernel_rfl) (by kernel_rfl) (by kernel_rfl) (fun _ _ _ h => h) (Or.inl ⟨by rfl, ?hy36⟩) hHeld ?rest36
  case hy36 => intro w9 hSw; go_simp; (try with_reducible rfl)
  try simp only [Act.put, List.setIfInBounds_toArray, List.set_cons_zero, List.set_cons_succ]
  refine wpAnyH_done (by kernel_rfl) ?_ _
  refine NoPanic.normal ?_
  have hB5 : Below W.heap.size W x34 := bt L4.out hT
  clear hT hHeld L4 C1 C2 C3 C4 HXC D1 D2 D3 D4
  go_wp2_with fail
  go_loopw [17] (fun v wr => ∃ q : Nat, q ≤ n ∧ v = .int .i64 q ∧ Below W.heap.size W wr) (fun v _ => n - (intOf v).toNat)
  case atStart => exact ⟨0, Nat.zero_le _, rfl, hB5⟩
  case round =>
    clear hB5
    obtain ⟨q, hq, rfl, hB⟩ := hrel
    by_cases hqn : q < n
    · have HG := HQ.out.later hB
      obtain ⟨b0, off, rfl, hc⟩ := HG.1 (by omega)
      have f0 := (hc q hqn).1.1
      have f1 := (hc q hqn).1.2
      have x0 := cell_later HX0.out.1 hB
      have x1 := cell_later HX0.out.2 hB
      have C1 : Hid (∀ d, Below wr.heap.size wr d → Calls Try.prog 14 #[schV (Q q).nm (Q q).v, schV S (.slice fa fl fc)] d fun e w' => e = .returned (.bool (sameB (Q q).nm (Q q).l (Q q).fn (Q q).fk S fl fn fk)) ∧ Below d.heap.size d w') := fun d hd => same_any (Q q).nm (Q q).a (Q q).l (Q q).c (Q q).fn (Q q).fk S fa fl fc fn fk d ((HG.2 q hqn).1.later hd) ((HF.out.later hB).later hd) (HG.2 q hqn).2
      have C2 : Hid (∀ d, Below wr.heap.size wr d → Calls Try.prog 15 #[schV (Q q).nm (Q q).v, schV S (.slice fa fl fc)] d fun e w' => e = .returned (.bool (sameB (Q q).nm (Q q).l (Q q).fn (Q q).fk S fl fn fk)) ∧ Below d.heap.size d w') := fun d hd => refSame_any (Q q).nm (Q q).a (Q q).l (Q q).c (Q q).fn (Q q).fk S fa fl fc fn fk d ((HG.2 q hqn).1.later hd) ((HF.out.later hB).later hd) (HG.2 q hqn).2
      generalize sameB (Q q).nm (Q q).l (Q q).fn (Q q).fk S fl fn fk = yb at C1 C2
      clear hc HG
      go_wp2_with fail
      refine wp_region_noPanic ?_
      refine wp_region_held_drew (S := fun w' => Below wr.heap.size wr w') (by kernel_rfl) ((Below.refl _ _).drew) (fun hHeld => ?_)
      have hT : Below wr.heap.size wr wr.drew := hHeld
      refine wpAnyH_take (i := 0) (oi := ⟨some 87, Op.move (Operand.tmp 0), 22, _, _, _⟩) (v := ?v0t) rfl (by kernel_rfl) (by kernel_rfl) (by kernel_rfl) (fun _ _ _ h => h) (Or.inl ⟨by rfl, ?hy0t⟩) hHeld ?rest0t
      case hy0t => intro w9 hSw; go_simp; (try with_reducible rfl)
      try simp only [Act.put, List.setIfInBounds_toArray, List.set_cons_zero, List.set_cons_succ]
      refine wpAnyH_take (i := 1) (oi := ⟨some 88, Op.move (Operand.tmp 17), 3, _, _, _⟩) (v := ?v1t) rfl (by kernel_rfl) (by kernel_rfl) (by kernel_rfl) (fun _ _ _ h => h) (Or.inl ⟨by rfl, ?hy1t⟩) hHeld ?rest1t
      case hy1t => intro w9 hSw; go_simp; (try with_reducible rfl)
      try simp only [Act.put, List.setIfInBounds_toArray, List.set_cons_zero, List.set_cons_succ]
      refine wpAnyH_take (i := 2) (oi := ⟨some 89, Op.indexAddr 22 (Operand.tmp 87) (Operand.tmp 88), 0, _, _, _⟩) (v := ?v2t) rfl (by kernel_rfl) (by kernel_rfl) (by kernel_rfl) (fun _ _ _ h => h) (Or.inl ⟨by rfl, ?hy2t⟩) hHeld ?rest2t
      case hy2t => intro w9 hSw; go_simp; (try with_reducible rfl)
      try simp only [Act.put, List.setIfInBounds_toArray, List.set_cons_zero, List.set_cons_succ]
      refine wpAnyH_take (i := 3) (oi := ⟨some 90, Op.load 25 (Operand.tmp 89), 25, _, _, _⟩) (v := ?v3t) rfl (by kernel_rfl) (by kernel_rfl) (by kernel_rfl) (fun _ _ _ h => h) (Or.inl ⟨by rfl, ?hy3t⟩) hHeld ?rest3t
      case hy3t => intro w9 hSw; have c0 := cell_later f0 hSw; have c1 := cell_later f1 hSw; go_simp; (try with_reducible rfl)
      try simp only [Act.put, List.setIfInBounds_toArray, List.set_cons_zero, List.set_cons_succ]
      refine wpAnyH_take (i := 4) (oi := ⟨some 91, Op.load 25 (Operand.tmp 4), 25, _, _, _⟩) (v := ?v4t) rfl (by kernel_rfl) (by kernel_rfl) (by kernel_rfl) (fun _ _ _ h => h) (Or.inl ⟨by rfl, ?hy4t⟩) hHeld ?rest4t
      case hy4t => intro w9 hSw; have c0 := cell_later x0 hSw; have c1 := cell_later x1 hSw; go_simp; (try with_reducible rfl)
      try simp only [Act.put, List.setIfInBounds_toArray, List.set_cons_zero, List.set_cons_succ]
      refine wpAnyH_take (i := 6) (oi := ⟨some 93, Op.move (Operand.tmp 0), 22, _, _, _⟩) (v := ?v6t) rfl (by kernel_rfl) (by kernel_rfl) (by kernel_rfl) (fun _ _ _ h => h) (Or.inl ⟨by rfl, ?hy6t⟩) hHeld ?rest6t
      case hy6t => intro w9 hSw; go_simp; (try with_reducible rfl)
      try simp only [Act.put, List.setIfInBounds_toArray, List.set_cons_zero, List.set_cons_succ]
      refine wpAnyH_take (i := 7) (oi := ⟨some 94, Op.move (Operand.tmp 17), 3, _, _, _⟩) (v := ?v7t) rfl (by kernel_rfl) (by kernel_rfl) (by kernel_rfl) (fun _ _ _ h => h) (Or.inl ⟨by rfl, ?hy7t⟩) hHeld ?rest7t
      case hy7t => intro w9 hSw; go_simp; (try with_reducible rfl)
      try simp only [Act.put, List.setIfInBounds_toArray, List.set_cons_zero, List.set_cons_succ]
      refine wpAnyH_take (i := 8) (oi := ⟨some 95, Op.indexAddr 22 (Operand.tmp 93) (Operand.tmp 94), 0, _, _, _⟩) (v := ?v8t) rfl (by kernel_rfl) (by kernel_rfl) (by kernel_rfl) (fun _ _ _ h => h) (Or.inl ⟨by rfl, ?hy8t⟩) hHeld ?rest8t
      case hy8t => intro w9 hSw; go_simp; (try with_reducible rfl)
      try simp only [Act.put, List.setIfInBounds_toArray, List.set_cons_zero, List.set_cons_succ]
      refine wpAnyH_take (i := 9) (oi := ⟨some 96, Op.load 25 (Operand.tmp 95), 25, _, _, _⟩) (v := ?v9t) rfl (by kernel_rfl) (by kernel_rfl) (by kernel_rfl) (fun _ _ _ h => h) (Or.inl ⟨by rfl, ?hy9t⟩) hHeld ?rest9t
      case hy9t => intro w9 hSw; have c0 := cell_later f0 hSw; have c1 := cell_later f1 hSw; go_simp; (try with_reducible rfl)
      try simp only [Act.put, List.setIfInBounds_toArray, List.set_cons_zero, List.set_cons_succ]
      refine wpAnyH_take (i := 10) (oi := ⟨some 97, Op.load 25 (Operand.tmp 4), 25, _, _, _⟩) (v := ?v10t) rfl (by kernel_rfl) (by kernel_rfl) (by kernel_rfl) (fun _ _ _ h => h) (Or.inl ⟨by rfl, ?hy10t⟩) hHeld ?rest10t
      case hy10t => intro w9 hSw; have c0 := cell_later x0 hSw; have c1 := cell_later x1 hSw; go_simp; (try with_reducible rfl)
      try simp only [Act.put, List.setIfInBounds_toArray, List.set_cons_zero, List.set_cons_succ]
      refine wpAnyH_ready (rs := [5]) (by kernel_rfl) (by simp) ?_
      refine AllReadyH.cons (o := ⟨some 92, Op.call { callee := Callee.value (Operand.func 14), args := #[Operand.tmp 90, Operand.tmp 91], argTypes := #[25, 25] }, 4, _, _, _⟩) rfl (fun K hK => ?_) AllReadyH.nil
      go_simp
      refine (C1.out _ hHeld).mono ?_
      rintro e x5 ⟨rfl, hN5⟩
      go_wp2_with fail
      have hT5 : Below wr.heap.size wr x5 := hT.trans (hN5.mono hT.size)
      refine hK.out _ _ (hHeld.trans (hN5.mono hHeld.size)) (fun _ => held_up (S' := fun w' => Below x5.heap.size x5 w') (fun w' h' => (hHeld.trans (hN5.mono hHeld.size)).trans (h'.mono (Nat.le_trans hHeld.size hN5.size))) _ _ _ _ ?_)
      clear hK K hHeld hT
      have hT : Below wr.heap.size wr x5 := hT5
      have hHeld : Below x5.heap.size x5 x5 := Below.refl _ _
      clear hT5 hN5
      try simp only [Act.put, List.setIfInBounds_toArray, List.set_cons_zero, List.set_cons_succ]
      refine wpAnyH_ready (rs := [11]) (by kernel_rfl) (by simp) ?_
      refine AllReadyH.cons (o := ⟨some 98, Op.call { callee := Callee.value (Operand.func 15), args := #[Operand.tmp 96, Operand.tmp 97], argTypes := #[25, 25] }, 4, _, _, _⟩) rfl (fun K hK => ?_) AllReadyH.nil
      go_simp
      refine (C2.out _ hT).mono ?_
      rintro e x11 ⟨rfl, hN11⟩
      go_wp2_with fail
      have hT11 : Below wr.heap.size wr x11 := hT.trans (hN11.mono hT.size)
      refine hK.out _ _ (hHeld.trans (hN11.mono hHeld.size)) (fun _ => held_up (S' := fun w' => Below x11.heap.size x11 w') (fun w' h' => (hHeld.trans (hN11.mono hHeld.size)).trans (h'.mono (Nat.le_trans hHeld.size hN11.size))) _ _ _ _ ?_)
      clear hK K hHeld hT
      have hT : Below wr.heap.size wr x11 := hT11
      have hHeld : Below x11.heap.size x11 x11 := Below.refl _ _
      clear hT11 hN11
      try simp only [Act.put, List.setIfInBounds_toArray, List.set_cons_zero, List.set_cons_succ]
      refine wpAnyH_take (i := 12) (oi := ⟨some 99, Op.binOp BinOp.neq 4 (Operand.tmp 92) (Operand.tmp 98) 4, 4, _, _, _⟩) (v := ?v12t) rfl (by kernel_rfl) (by kernel_rfl) (by kernel_rfl) (fun _ _ _ h => h) (Or.inl ⟨by rfl, ?hy12t⟩) hHeld ?rest12t
      case hy12t => intro w9 hSw; go_simp; (try with_reducible rfl)
      try simp only [Act.put, List.setIfInBounds_toArray, List.set_cons_zero, List.set_cons_succ]
      refine wpAnyH_done (by kernel_rfl) ?_ _
      refine NoPanic.normal ?_
      go_wp2
      go_roundw
      case rel => exact ⟨q + 1, by omega, by go_num, bt hB hT⟩
      case measure => simp [intOf]; omega
    · have x0 := cell_later HX0.out.1 hB
      have x1 := cell_later HX0.out.2 hB
      have C1 : Hid (Calls Try.prog 14 _ wr _) := same_any S fa fl fc fn fk S fa fl fc fn fk wr (HF.out.later hB) (HF.out.later hB) HFL.out
      rw [same_self] at C1
      go_wp2_with (first
        | (go_at_call 14; refine C1.out.mono ?_; rintro e w6 ⟨rfl, hB6⟩)
        | (go_at_call 16; refine (awake_any _).mono ?_; rintro e w7 ⟨rfl, hB7⟩))
      go_ret
      exact ⟨rfl, bt hB0 (bt hB (bt hB6 hB7))⟩
end Go.Proofs.Ytdaldnpajihdlaa
