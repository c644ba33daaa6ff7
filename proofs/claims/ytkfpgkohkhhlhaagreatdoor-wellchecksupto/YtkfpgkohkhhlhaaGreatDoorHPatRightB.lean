/- Texts that the last one stands on. -/
import Derived.Test.YtkfpgkohkhhlhaaGreatDoorHPatKinds
import Derived.Deep.DeepCutAuto
set_option maxRecDepth 100000
set_option maxHeartbeats 2000000
namespace Go.Proofs.YtkfpgkohkhhlhaaGreatDoor
open Go.RowKit
theorem counts_any (lo hi:Int) (w:World):Calls Tryz.prog 142 #[.int .i64 lo,.int .i64 hi] w fun e w'=>e=.returned (.bool (cntB lo hi))∧w'=w:=by
 unfold cntB
 by_cases h1:lo < 1
 · go_enter Tryz.func142,Tryz.ntmps142
   go_wp2
   go_ret
   exact ⟨by simp [show ¬ 1≤lo by omega],rfl⟩
 · by_cases h2:1000 < lo
   · go_enter Tryz.func142,Tryz.ntmps142
     go_wp2
     go_ret
     exact ⟨by simp [show ¬ lo≤1000 by omega],rfl⟩
   · by_cases h3:lo=1
     · by_cases h4:hi=1
       · subst h3 h4
         go_enter Tryz.func142,Tryz.ntmps142
         go_wp2
         go_ret
         exact ⟨by simp,rfl⟩
       · have t3:(lo == 1)=true:=by simp [h3]
         have t4:(hi == 1)=false:=by simp [h4]
         go_enter Tryz.func142,Tryz.ntmps142
         go_wp2
         all_goals go_ret
         all_goals refine ⟨?_,rfl⟩
         all_goals simp
         all_goals simp_all
         all_goals (intro _;omega)
     · have t3:(lo == 1)=false:=by simp [h3]
       go_enter Tryz.func142,Tryz.ntmps142
       go_wp2
       all_goals go_ret
       all_goals refine ⟨?_,rfl⟩
       all_goals simp
       all_goals simp_all
       all_goals (intro _;omega)
theorem rP5_0 (x:Pt) (b o:Nat) (w:World) (hN:NodeP w b o x) (k1:(x.k == 1)=false) (k6:(x.k == 6)=false) (k5:(x.k == 5)=true) (h1:nameB x.s=false):Calls Tryz.prog 105 #[.pointer (some ⟨b,o,none⟩)] w (RV (.bool false) w):=by
 obtain ⟨A,hA,hB,HP,hs,HN⟩:=pre_p hN
 have cp:=HP.out.cell
 obtain ⟨d0,d1,d2,d3,d4,d5⟩:=HN.out
 have HB:=hid hB
 have N1:Hid (∀ d,Calls Tryz.prog 103 #[.string x.s] d (RV (.bool false) d)):=fun d=>by have:=name_any x.s d;rw [h1] at this;exact this
 clear hB hN h1 d0 d1 d2 d3 d4 d5
 go_enter Tryz.func105,Tryz.ntmps105
 have e0:=HN.out.1
 go_upto_region 6 with (fail)
 clear cp e0
 refine bg fun d hHeld=>?_
 have hT:=hHeld
 refine tk 0 ?_ (hy:=fun w9 hSw=>by have cc:=(Boxed.kept_of HP.out hSw (by omega)).cell;go_simp;(try with_reducible rfl))
 refine tk 1 ?_
 refine tk 2 ?_
 refine tk 3 ?_ (hy:=fun w9 hSw=>by obtain ⟨d0,d1,d2,d3,d4,d5⟩:=HN.out.later hSw;go_simp;(try with_reducible rfl))
 refine rd 4 fun K hK=>?_
 go_simp
 refine (N1.out _).mono ?_
 rintro e x4 ⟨rfl,hN4⟩
 go_wp2_with fail
 refine up hK hHeld hN4 ?_
 replace hT:=hT.trans (hN4.mono hT.size)
 replace hHeld:=Below.refl x4.heap.size x4
 clear hK K hN4
 refine tk 5 ?_
 refine tn 6 ?_
 refine tn 7 ?_
 refine tn 8 ?_
 refine tn 9 ?_
 refine tn 10 ?_
 refine tk 11 ?_
 refine tk 12 ?_
 refine tn 13 ?_
 refine tn 14 ?_
 refine tn 15 ?_
 refine tn 16 ?_
 refine tn 17 ?_
 refine tn 18 ?_
 refine tn 19 ?_
 refine tn 20 ?_
 refine tn 21 ?_
 refine tk 22 ?_
 refine tk 23 ?_
 refine tn 24 ?_
 refine tn 25 ?_
 refine tn 26 ?_
 refine tn 27 ?_
 refine tn 28 ?_
 refine tn 29 ?_
 refine tk 30 ?_
 refine tk 31 ?_
 refine dn ?_
 go_wp2
 go_ret
 exact ⟨rfl,HB.out.trans (hT.mono (by omega))⟩
theorem rP5_1 (x:Pt) (b o:Nat) (w:World) (hN:NodeP w b o x) (k1:(x.k == 1)=false) (k6:(x.k == 6)=false) (k5:(x.k == 5)=true) (h1:nameB x.s=true) (h2:nameB x.t=false):Calls Tryz.prog 105 #[.pointer (some ⟨b,o,none⟩)] w (RV (.bool false) w):=by
 obtain ⟨A,hA,hB,HP,hs,HN⟩:=pre_p hN
 have cp:=HP.out.cell
 obtain ⟨d0,d1,d2,d3,d4,d5⟩:=HN.out
 have HB:=hid hB
 have N1:Hid (∀ d,Calls Tryz.prog 103 #[.string x.s] d (RV (.bool true) d)):=fun d=>by have:=name_any x.s d;rw [h1] at this;exact this
 have N2:Hid (∀ d,Calls Tryz.prog 103 #[.string x.t] d (RV (.bool false) d)):=fun d=>by have:=name_any x.t d;rw [h2] at this;exact this
 clear hB hN h1 h2 d0 d1 d2 d3 d4 d5
 go_enter Tryz.func105,Tryz.ntmps105
 have e0:=HN.out.1
 go_upto_region 6 with (fail)
 clear cp e0
 refine bg fun d hHeld=>?_
 have hT:=hHeld
 refine tk 0 ?_ (hy:=fun w9 hSw=>by have cc:=(Boxed.kept_of HP.out hSw (by omega)).cell;go_simp;(try with_reducible rfl))
 refine tk 1 ?_
 refine tk 2 ?_
 refine tk 3 ?_ (hy:=fun w9 hSw=>by obtain ⟨d0,d1,d2,d3,d4,d5⟩:=HN.out.later hSw;go_simp;(try with_reducible rfl))
 refine rd 4 fun K hK=>?_
 go_simp
 refine (N1.out _).mono ?_
 rintro e x4 ⟨rfl,hN4⟩
 go_wp2_with fail
 refine up hK hHeld hN4 ?_
 replace hT:=hT.trans (hN4.mono hT.size)
 replace hHeld:=Below.refl x4.heap.size x4
 clear hK K hN4
 refine tk 5 ?_
 refine tk 6 ?_ (hy:=fun w9 hSw=>by have cc:=(Boxed.kept_of HP.out (hT.trans (hSw.mono hT.size)) (by omega)).cell;go_simp;(try with_reducible rfl))
 refine tk 7 ?_
 refine tk 8 ?_
 refine tk 9 ?_ (hy:=fun w9 hSw=>by obtain ⟨d0,d1,d2,d3,d4,d5⟩:=HN.out.later (hT.trans (hSw.mono hT.size));go_simp;(try with_reducible rfl))
 refine rd 10 fun K hK=>?_
 go_simp
 refine (N2.out _).mono ?_
 rintro e x10 ⟨rfl,hN10⟩
 go_wp2_with fail
 refine up hK hHeld hN10 ?_
 replace hT:=hT.trans (hN10.mono hT.size)
 replace hHeld:=Below.refl x10.heap.size x10
 clear hK K hN10
 refine tk 11 ?_
 refine tk 12 ?_
 refine tn 13 ?_
 refine tn 14 ?_
 refine tn 15 ?_
 refine tn 16 ?_
 refine tn 17 ?_
 refine tn 18 ?_
 refine tn 19 ?_
 refine tn 20 ?_
 refine tn 21 ?_
 refine tk 22 ?_
 refine tk 23 ?_
 refine tn 24 ?_
 refine tn 25 ?_
 refine tn 26 ?_
 refine tn 27 ?_
 refine tn 28 ?_
 refine tn 29 ?_
 refine tk 30 ?_
 refine tk 31 ?_
 refine dn ?_
 go_wp2
 go_ret
 exact ⟨rfl,HB.out.trans (hT.mono (by omega))⟩
theorem rP5_2 (x:Pt) (b o:Nat) (w:World) (hN:NodeP w b o x) (k1:(x.k == 1)=false) (k6:(x.k == 6)=false) (k5:(x.k == 5)=true) (h1:nameB x.s=true) (h2:nameB x.t=true) (h3:cntB x.lo x.hi=false):Calls Tryz.prog 105 #[.pointer (some ⟨b,o,none⟩)] w (RV (.bool false) w):=by
 obtain ⟨A,hA,hB,HP,hs,HN⟩:=pre_p hN
 have cp:=HP.out.cell
 obtain ⟨d0,d1,d2,d3,d4,d5⟩:=HN.out
 have HB:=hid hB
 have N1:Hid (∀ d,Calls Tryz.prog 103 #[.string x.s] d (RV (.bool true) d)):=fun d=>by have:=name_any x.s d;rw [h1] at this;exact this
 have N2:Hid (∀ d,Calls Tryz.prog 103 #[.string x.t] d (RV (.bool true) d)):=fun d=>by have:=name_any x.t d;rw [h2] at this;exact this
 have CT:Hid (∀ d,Calls Tryz.prog 142 #[.int .i64 x.lo,.int .i64 x.hi] d fun e w'=>e=.returned (.bool false)∧w'=d):=fun d=>by have:=counts_any x.lo x.hi d;rw [h3] at this;exact this
 clear hB hN h1 h2 h3 d0 d1 d2 d3 d4 d5
 go_enter Tryz.func105,Tryz.ntmps105
 have e0:=HN.out.1
 go_upto_region 6 with (fail)
 clear cp e0
 refine bg fun d hHeld=>?_
 have hT:=hHeld
 refine tk 0 ?_ (hy:=fun w9 hSw=>by have cc:=(Boxed.kept_of HP.out hSw (by omega)).cell;go_simp;(try with_reducible rfl))
 refine tk 1 ?_
 refine tk 2 ?_
 refine tk 3 ?_ (hy:=fun w9 hSw=>by obtain ⟨d0,d1,d2,d3,d4,d5⟩:=HN.out.later hSw;go_simp;(try with_reducible rfl))
 refine rd 4 fun K hK=>?_
 go_simp
 refine (N1.out _).mono ?_
 rintro e x4 ⟨rfl,hN4⟩
 go_wp2_with fail
 refine up hK hHeld hN4 ?_
 replace hT:=hT.trans (hN4.mono hT.size)
 replace hHeld:=Below.refl x4.heap.size x4
 clear hK K hN4
 refine tk 5 ?_
 refine tk 6 ?_ (hy:=fun w9 hSw=>by have cc:=(Boxed.kept_of HP.out (hT.trans (hSw.mono hT.size)) (by omega)).cell;go_simp;(try with_reducible rfl))
 refine tk 7 ?_
 refine tk 8 ?_
 refine tk 9 ?_ (hy:=fun w9 hSw=>by obtain ⟨d0,d1,d2,d3,d4,d5⟩:=HN.out.later (hT.trans (hSw.mono hT.size));go_simp;(try with_reducible rfl))
 refine rd 10 fun K hK=>?_
 go_simp
 refine (N2.out _).mono ?_
 rintro e x10 ⟨rfl,hN10⟩
 go_wp2_with fail
 refine up hK hHeld hN10 ?_
 replace hT:=hT.trans (hN10.mono hT.size)
 replace hHeld:=Below.refl x10.heap.size x10
 clear hK K hN10
 refine tk 11 ?_
 refine tk 12 ?_
 refine tk 13 ?_ (hy:=fun w9 hSw=>by have cc:=(Boxed.kept_of HP.out (hT.trans (hSw.mono hT.size)) (by omega)).cell;go_simp;(try with_reducible rfl))
 refine tk 14 ?_
 refine tk 15 ?_
 refine tk 16 ?_ (hy:=fun w9 hSw=>by obtain ⟨d0,d1,d2,d3,d4,d5⟩:=HN.out.later (hT.trans (hSw.mono hT.size));go_simp;(try with_reducible rfl))
 refine tk 17 ?_ (hy:=fun w9 hSw=>by have cc:=(Boxed.kept_of HP.out (hT.trans (hSw.mono hT.size)) (by omega)).cell;go_simp;(try with_reducible rfl))
 refine tk 18 ?_
 refine tk 19 ?_
 refine tk 20 ?_ (hy:=fun w9 hSw=>by obtain ⟨d0,d1,d2,d3,d4,d5⟩:=HN.out.later (hT.trans (hSw.mono hT.size));go_simp;(try with_reducible rfl))
 refine rd 21 fun K hK=>?_
 go_simp
 refine (CT.out _).mono ?_
 rintro e x21 ⟨rfl,hx21⟩
 replace hx21:=hx21.symm
 subst hx21
 go_wp2_with fail
 refine hK.out _ _ hHeld (fun _=>?_)
 clear hK K
 try simp only [Act.put,s_put,s_0,s_1]
 refine tk 22 ?_
 refine tk 23 ?_
 refine tn 24 ?_
 refine tn 25 ?_
 refine tn 26 ?_
 refine tn 27 ?_
 refine tn 28 ?_
 refine tn 29 ?_
 refine tk 30 ?_
 refine tk 31 ?_
 refine dn ?_
 go_wp2
 go_ret
 exact ⟨rfl,HB.out.trans (hT.mono (by omega))⟩
theorem rP5_3 (x:Pt) (b o:Nat) (w:World) (hN:NodeP w b o x) (k1:(x.k == 1)=false) (k6:(x.k == 6)=false) (k5:(x.k == 5)=true) (h1:nameB x.s=true) (h2:nameB x.t=true) (h3:cntB x.lo x.hi=true) (h5:(((x.n:Nat):Int) == 0)=false):Calls Tryz.prog 105 #[.pointer (some ⟨b,o,none⟩)] w (RV (.bool false) w):=by
 obtain ⟨A,hA,hB,HP,hs,HN⟩:=pre_p hN
 have cp:=HP.out.cell
 obtain ⟨d0,d1,d2,d3,d4,d5⟩:=HN.out
 have HB:=hid hB
 have N1:Hid (∀ d,Calls Tryz.prog 103 #[.string x.s] d (RV (.bool true) d)):=fun d=>by have:=name_any x.s d;rw [h1] at this;exact this
 have N2:Hid (∀ d,Calls Tryz.prog 103 #[.string x.t] d (RV (.bool true) d)):=fun d=>by have:=name_any x.t d;rw [h2] at this;exact this
 have CT:Hid (∀ d,Calls Tryz.prog 142 #[.int .i64 x.lo,.int .i64 x.hi] d fun e w'=>e=.returned (.bool true)∧w'=d):=fun d=>by have:=counts_any x.lo x.hi d;rw [h3] at this;exact this
 clear hB hN h1 h2 h3 d0 d1 d2 d3 d4 d5
 go_enter Tryz.func105,Tryz.ntmps105
 have e0:=HN.out.1
 go_upto_region 6 with (fail)
 clear cp e0
 refine bg fun d hHeld=>?_
 have hT:=hHeld
 refine tk 0 ?_ (hy:=fun w9 hSw=>by have cc:=(Boxed.kept_of HP.out hSw (by omega)).cell;go_simp;(try with_reducible rfl))
 refine tk 1 ?_
 refine tk 2 ?_
 refine tk 3 ?_ (hy:=fun w9 hSw=>by obtain ⟨d0,d1,d2,d3,d4,d5⟩:=HN.out.later hSw;go_simp;(try with_reducible rfl))
 refine rd 4 fun K hK=>?_
 go_simp
 refine (N1.out _).mono ?_
 rintro e x4 ⟨rfl,hN4⟩
 go_wp2_with fail
 refine up hK hHeld hN4 ?_
 replace hT:=hT.trans (hN4.mono hT.size)
 replace hHeld:=Below.refl x4.heap.size x4
 clear hK K hN4
 refine tk 5 ?_
 refine tk 6 ?_ (hy:=fun w9 hSw=>by have cc:=(Boxed.kept_of HP.out (hT.trans (hSw.mono hT.size)) (by omega)).cell;go_simp;(try with_reducible rfl))
 refine tk 7 ?_
 refine tk 8 ?_
 refine tk 9 ?_ (hy:=fun w9 hSw=>by obtain ⟨d0,d1,d2,d3,d4,d5⟩:=HN.out.later (hT.trans (hSw.mono hT.size));go_simp;(try with_reducible rfl))
 refine rd 10 fun K hK=>?_
 go_simp
 refine (N2.out _).mono ?_
 rintro e x10 ⟨rfl,hN10⟩
 go_wp2_with fail
 refine up hK hHeld hN10 ?_
 replace hT:=hT.trans (hN10.mono hT.size)
 replace hHeld:=Below.refl x10.heap.size x10
 clear hK K hN10
 refine tk 11 ?_
 refine tk 12 ?_
 refine tk 13 ?_ (hy:=fun w9 hSw=>by have cc:=(Boxed.kept_of HP.out (hT.trans (hSw.mono hT.size)) (by omega)).cell;go_simp;(try with_reducible rfl))
 refine tk 14 ?_
 refine tk 15 ?_
 refine tk 16 ?_ (hy:=fun w9 hSw=>by obtain ⟨d0,d1,d2,d3,d4,d5⟩:=HN.out.later (hT.trans (hSw.mono hT.size));go_simp;(try with_reducible rfl))
 refine tk 17 ?_ (hy:=fun w9 hSw=>by have cc:=(Boxed.kept_of HP.out (hT.trans (hSw.mono hT.size)) (by omega)).cell;go_simp;(try with_reducible rfl))
 refine tk 18 ?_
 refine tk 19 ?_
 refine tk 20 ?_ (hy:=fun w9 hSw=>by obtain ⟨d0,d1,d2,d3,d4,d5⟩:=HN.out.later (hT.trans (hSw.mono hT.size));go_simp;(try with_reducible rfl))
 refine rd 21 fun K hK=>?_
 go_simp
 refine (CT.out _).mono ?_
 rintro e x21 ⟨rfl,hx21⟩
 replace hx21:=hx21.symm
 subst hx21
 go_wp2_with fail
 refine hK.out _ _ hHeld (fun _=>?_)
 clear hK K
 try simp only [Act.put,s_put,s_0,s_1]
 refine tk 22 ?_
 refine tk 23 ?_
 refine tk 24 ?_ (hy:=fun w9 hSw=>by have cc:=(Boxed.kept_of HP.out (hT.trans (hSw.mono hT.size)) (by omega)).cell;go_simp;(try with_reducible rfl))
 refine tk 25 ?_
 refine tk 26 ?_
 refine tk 27 ?_ (hy:=fun w9 hSw=>by obtain ⟨d0,d1,d2,d3,d4,d5⟩:=HN.out.later (hT.trans (hSw.mono hT.size));go_simp;(try with_reducible rfl))
 refine tk 28 ?_
 refine tk 29 ?_
 refine tk 30 ?_
 refine tk 31 ?_
 refine dn ?_
 go_wp2
 go_ret
 exact ⟨rfl,HB.out.trans (hT.mono (by omega))⟩
theorem rP5_4 (x:Pt) (b o:Nat) (w:World) (hN:NodeP w b o x) (k1:(x.k == 1)=false) (k6:(x.k == 6)=false) (k5:(x.k == 5)=true) (h1:nameB x.s=true) (h2:nameB x.t=true) (h3:cntB x.lo x.hi=true) (h5:(((x.n:Nat):Int) == 0)=true):Calls Tryz.prog 105 #[.pointer (some ⟨b,o,none⟩)] w (RV (.bool true) w):=by
 obtain ⟨A,hA,hB,HP,hs,HN⟩:=pre_p hN
 have cp:=HP.out.cell
 obtain ⟨d0,d1,d2,d3,d4,d5⟩:=HN.out
 have HB:=hid hB
 have N1:Hid (∀ d,Calls Tryz.prog 103 #[.string x.s] d (RV (.bool true) d)):=fun d=>by have:=name_any x.s d;rw [h1] at this;exact this
 have N2:Hid (∀ d,Calls Tryz.prog 103 #[.string x.t] d (RV (.bool true) d)):=fun d=>by have:=name_any x.t d;rw [h2] at this;exact this
 have CT:Hid (∀ d,Calls Tryz.prog 142 #[.int .i64 x.lo,.int .i64 x.hi] d fun e w'=>e=.returned (.bool true)∧w'=d):=fun d=>by have:=counts_any x.lo x.hi d;rw [h3] at this;exact this
 clear hB hN h1 h2 h3 d0 d1 d2 d3 d4 d5
 go_enter Tryz.func105,Tryz.ntmps105
 have e0:=HN.out.1
 go_upto_region 6 with (fail)
 clear cp e0
 refine bg fun d hHeld=>?_
 have hT:=hHeld
 refine tk 0 ?_ (hy:=fun w9 hSw=>by have cc:=(Boxed.kept_of HP.out hSw (by omega)).cell;go_simp;(try with_reducible rfl))
 refine tk 1 ?_
 refine tk 2 ?_
 refine tk 3 ?_ (hy:=fun w9 hSw=>by obtain ⟨d0,d1,d2,d3,d4,d5⟩:=HN.out.later hSw;go_simp;(try with_reducible rfl))
 refine rd 4 fun K hK=>?_
 go_simp
 refine (N1.out _).mono ?_
 rintro e x4 ⟨rfl,hN4⟩
 go_wp2_with fail
 refine up hK hHeld hN4 ?_
 replace hT:=hT.trans (hN4.mono hT.size)
 replace hHeld:=Below.refl x4.heap.size x4
 clear hK K hN4
 refine tk 5 ?_
 refine tk 6 ?_ (hy:=fun w9 hSw=>by have cc:=(Boxed.kept_of HP.out (hT.trans (hSw.mono hT.size)) (by omega)).cell;go_simp;(try with_reducible rfl))
 refine tk 7 ?_
 refine tk 8 ?_
 refine tk 9 ?_ (hy:=fun w9 hSw=>by obtain ⟨d0,d1,d2,d3,d4,d5⟩:=HN.out.later (hT.trans (hSw.mono hT.size));go_simp;(try with_reducible rfl))
 refine rd 10 fun K hK=>?_
 go_simp
 refine (N2.out _).mono ?_
 rintro e x10 ⟨rfl,hN10⟩
 go_wp2_with fail
 refine up hK hHeld hN10 ?_
 replace hT:=hT.trans (hN10.mono hT.size)
 replace hHeld:=Below.refl x10.heap.size x10
 clear hK K hN10
 refine tk 11 ?_
 refine tk 12 ?_
 refine tk 13 ?_ (hy:=fun w9 hSw=>by have cc:=(Boxed.kept_of HP.out (hT.trans (hSw.mono hT.size)) (by omega)).cell;go_simp;(try with_reducible rfl))
 refine tk 14 ?_
 refine tk 15 ?_
 refine tk 16 ?_ (hy:=fun w9 hSw=>by obtain ⟨d0,d1,d2,d3,d4,d5⟩:=HN.out.later (hT.trans (hSw.mono hT.size));go_simp;(try with_reducible rfl))
 refine tk 17 ?_ (hy:=fun w9 hSw=>by have cc:=(Boxed.kept_of HP.out (hT.trans (hSw.mono hT.size)) (by omega)).cell;go_simp;(try with_reducible rfl))
 refine tk 18 ?_
 refine tk 19 ?_
 refine tk 20 ?_ (hy:=fun w9 hSw=>by obtain ⟨d0,d1,d2,d3,d4,d5⟩:=HN.out.later (hT.trans (hSw.mono hT.size));go_simp;(try with_reducible rfl))
 refine rd 21 fun K hK=>?_
 go_simp
 refine (CT.out _).mono ?_
 rintro e x21 ⟨rfl,hx21⟩
 replace hx21:=hx21.symm
 subst hx21
 go_wp2_with fail
 refine hK.out _ _ hHeld (fun _=>?_)
 clear hK K
 try simp only [Act.put,s_put,s_0,s_1]
 refine tk 22 ?_
 refine tk 23 ?_
 refine tk 24 ?_ (hy:=fun w9 hSw=>by have cc:=(Boxed.kept_of HP.out (hT.trans (hSw.mono hT.size)) (by omega)).cell;go_simp;(try with_reducible rfl))
 refine tk 25 ?_
 refine tk 26 ?_
 refine tk 27 ?_ (hy:=fun w9 hSw=>by obtain ⟨d0,d1,d2,d3,d4,d5⟩:=HN.out.later (hT.trans (hSw.mono hT.size));go_simp;(try with_reducible rfl))
 refine tk 28 ?_
 refine tk 29 ?_
 refine tk 30 ?_
 refine tk 31 ?_
 refine dn ?_
 go_wp2
 go_ret
 exact ⟨rfl,HB.out.trans (hT.mono (by omega))⟩
theorem rP5_any (x:Pt) (b o:Nat) (w:World) (hN:NodeP w b o x) (k1:(x.k == 1)=false) (k6:(x.k == 6)=false) (k5:(x.k == 5)=true):Calls Tryz.prog 105 #[.pointer (some ⟨b,o,none⟩)] w (RV (.bool (manyB x)) w):=by
 cases h1:nameB x.s with
 | false=>rw [show manyB x=false by simp [manyB,h1]];exact rP5_0 x b o w hN k1 k6 k5 h1
 | true =>
   cases h2:nameB x.t with
   | false=>rw [show manyB x=false by simp [manyB,h2]];exact rP5_1 x b o w hN k1 k6 k5 h1 h2
   | true =>
     cases h3:cntB x.lo x.hi with
     | false=>rw [show manyB x=false by simp [manyB,h3]];exact rP5_2 x b o w hN k1 k6 k5 h1 h2 h3
     | true =>
       cases h5:(x.n == 0) with
       | false=>rw [show manyB x=false by simp [manyB,h5]];exact rP5_3 x b o w hN k1 k6 k5 h1 h2 h3 (by simp at h5 ⊢;omega)
       | true=>rw [show manyB x=true by simp [manyB,h1,h2,h3,h5]];exact rP5_4 x b o w hN k1 k6 k5 h1 h2 h3 (by simp at h5 ⊢;omega)
end Go.Proofs.YtkfpgkohkhhlhaaGreatDoor
