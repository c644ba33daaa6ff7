/- Texts that the last one stands on. -/
import Derived.Test.YtkfpgkohkhhlhaaGreatDoorHExprRefRightPA
import Derived.Test.YtkfpgkohkhhlhaaGreatDoorHExprRefRightPB
import Derived.Test.YtkfpgkohkhhlhaaGreatDoorHExprRefRightPC
set_option maxRecDepth 100000
set_option maxHeartbeats 2000000
namespace Go.Proofs.YtkfpgkohkhhlhaaGreatDoor
open Go.RowKit
theorem refR_17 (x:X) (w:World) (hX:IsX w x) (HI:Hid (∀ i,i < x.n→∀ w,IsX w (x.c i)→Calls Tryz.prog 130 #[(x.c i).val] w fun e w'=>∃ r,e=.returned (.bool r)∧(r=true ↔ TreeR (x.c i))∧Below w.heap.size w w')) (hk:x.k=17) (hv:x.v=val0) (hsf:x.s=⟨#[]⟩∧x.f=⟨#[]⟩) (hn0:2≤x.n) :
 Calls Tryz.prog 130 #[x.val] w fun e w'=>∃ r,e=.returned (.bool r)∧(r=true ↔ TreeR x)∧Below w.heap.size w w':=by
 obtain ⟨A,hA,hB,hs,hn⟩:=one_box x w
 obtain ⟨a0,a1,a2,a3,a4,a5,a6⟩:=hn.at0
 have HB:=hid hB
 have HN:=hid hn
 have HX:=hid hX
 have hlen:=hX.len
 have HNR:Hid ((∀ i,i < x.n→(x.c i).k ≠ x.k)→NodeR x):=(fun h=>⟨fun _=>hv,fun _=>hsf,.inr (.inr (.inr (.inr ⟨by omega,hn0,h⟩)))⟩:(∀ i,i < x.n→(x.c i).k ≠ x.k)→NodeR x)
 have HKK:=hid hk
 have t1:¬ (x.n:Int) < 2:=by omega
 clear hX hn0
 rw [hk] at a0
 clear hk
 rw [hv] at a1 a2 a3
 have v1:val0.k=0:=rfl
 have v2:val0.n=0:=rfl
 have v3:val0.s=⟨#[]⟩:=rfl
 rw [v1] at a1
 rw [v2] at a2
 rw [v3] at a3
 clear v1 v2 v3 hv
 rw [hsf.1] at a4
 rw [hsf.2] at a5
 clear hsf
 clear hB hn
 go_enter Tryz.func130,Tryz.ntmps130
 go_wp2_with fail
 clear t1
 go_loopw [4] (fun u wr=>∃ i:Nat,i≤x.n∧u=.int .i64 i∧Hid (∀ j,j < i→TreeR (x.c j)∧(x.c j).k ≠ 17)∧Below A.heap.size A wr) (fun u _=>x.n - (intOf u).toNat)
 case atStart=>exact ⟨0,Nat.zero_le _,rfl,fun j hj=>by omega,Below.refl _ _⟩
 case round =>
  obtain ⟨i,hi,rfl,HD,hB⟩:=hrel
  have hw:=HB.out.trans (hB.mono (by omega))
  by_cases hin:i < x.n
  · obtain ⟨b,o,ea,hn,hx⟩:=(HX.out.later hw).part hin
    have HK:=hid hin
    have C0:Hid (wr.cell? ⟨w.heap.size,0,none⟩=some (.int .i64 17)):=by have:=(node_on HN.out (hB.mono (by omega))).at0.1;rw [HKK.out] at this;exact this
    have C6:Hid (wr.cell? ⟨w.heap.size,6,none⟩=some (.slice (some ⟨b,o,none⟩) x.n x.cap)):=by have:=(node_on HN.out (hB.mono (by omega))).at0.2.2.2.2.2.2;rw [ea] at this;exact this
    have N1:=hid hn
    have hcc:Hid (∀ d,Below wr.heap.size wr d→Calls Tryz.prog 130 #[(x.c i).val] d fun e w'=>∃ r,e=.returned (.bool r)∧(r=true ↔ TreeR (x.c i))∧Below d.heap.size d w'):=fun d h=>HI.out i hin d (hx.later h)
    clear hx hn ea
    by_cases ht:TreeR (x.c i)
    · have hc:Hid (∀ d,Below wr.heap.size wr d→Calls Tryz.prog 130 #[(x.c i).val] d (RV (.bool true) d)):=fun d h=>(hcc.out d h).mono fun e w' hh=>by
       obtain ⟨r,h1,h2,h3⟩:=hh
       exact ⟨by rw [h1,h2.2 ht],h3⟩
      have HT:=hid ht
      clear ht hcc
      by_cases he:(x.c i).k=17
      · have he':((x.c i).k == 17)=true:=by simpa using he
        have HE:=hid he
        clear he
        go_wp2_with fail
        refine bg fun d hHeld=>?_
        have hT:=hHeld
        refine tk 0 ?_
        refine tk 1 ?_ (hy:=fun w9 hSw=>by have cc:=cell_later C6.out hSw;go_simp;(try with_reducible rfl))
        refine tk 2 ?_
        refine tk 3 ?_
        refine tk 4 ?_ (hy:=fun w9 hSw=>by obtain ⟨d0,d1,d2,d3,d4,d5,d6⟩:=N1.out.later hSw;go_simp;(try with_reducible rfl))
        refine rd 5 fun K hK=>?_
        go_simp
        refine (hc.out _ hHeld).mono ?_
        rintro e x5 ⟨rfl,hN5⟩
        go_wp2_with fail
        refine up hK hHeld hN5 ?_
        replace hT:=hT.trans (hN5.mono hT.size)
        replace hHeld:=Below.refl x5.heap.size x5
        clear hK K hN5
        refine tk 6 ?_
        refine tk 7 ?_
        refine tk 8 ?_
        refine tk 9 ?_ (hy:=fun w9 hSw=>by have cc:=cell_later C0.out (hT.trans (hSw.mono hT.size));go_simp;(try with_reducible rfl))
        refine tk 10 ?_
        refine tk 11 ?_
        refine tk 12 ?_
        refine tk 13 ?_ (hy:=fun w9 hSw=>by have cc:=cell_later C0.out (hT.trans (hSw.mono hT.size));go_simp;(try with_reducible rfl))
        refine tk 14 ?_
        refine tk 15 ?_
        refine tk 16 ?_
        refine tk 17 ?_
        refine tk 18 ?_ (hy:=fun w9 hSw=>by have cc:=cell_later C6.out (hT.trans (hSw.mono hT.size));go_simp;(try with_reducible rfl))
        refine tk 19 ?_
        refine tk 20 ?_
        refine tk 21 ?_
        refine tk 22 ?_ (hy:=fun w9 hSw=>by obtain ⟨d0,d1,d2,d3,d4,d5,d6⟩:=N1.out.later (hT.trans (hSw.mono hT.size));go_simp;(try with_reducible rfl))
        refine tk 23 ?_
        refine tk 24 ?_ (hy:=fun w9 hSw=>by have cc:=cell_later C0.out (hT.trans (hSw.mono hT.size));go_simp;(try with_reducible rfl))
        refine tk 25 ?_
        refine tk 26 ?_
        refine tk 27 ?_
        refine dn ?_
        have hB3:=hB.trans (hT.mono hB.size)
        go_wp2
        try rw [Exit.noGoto_ret]
        go_ret
        refine ⟨false,rfl,⟨fun h=>(by cases h),fun h=>?_⟩,HB.out.trans (hB3.mono (by omega))⟩
        exact absurd (HE.out.trans HKK.out.symm) ((((nodeR_many x (by have:=HKK.out;omega)).1 ((treeR_eq x).1 h).1).1.2) i HK.out)
      · have he':((x.c i).k == 17)=false:=by simpa using he
        have HE:=hid he
        clear he
        go_wp2_with fail
        refine bg fun d hHeld=>?_
        have hT:=hHeld
        refine tk 0 ?_
        refine tk 1 ?_ (hy:=fun w9 hSw=>by have cc:=cell_later C6.out hSw;go_simp;(try with_reducible rfl))
        refine tk 2 ?_
        refine tk 3 ?_
        refine tk 4 ?_ (hy:=fun w9 hSw=>by obtain ⟨d0,d1,d2,d3,d4,d5,d6⟩:=N1.out.later hSw;go_simp;(try with_reducible rfl))
        refine rd 5 fun K hK=>?_
        go_simp
        refine (hc.out _ hHeld).mono ?_
        rintro e x5 ⟨rfl,hN5⟩
        go_wp2_with fail
        refine up hK hHeld hN5 ?_
        replace hT:=hT.trans (hN5.mono hT.size)
        replace hHeld:=Below.refl x5.heap.size x5
        clear hK K hN5
        refine tk 6 ?_
        refine tk 7 ?_
        refine tk 8 ?_
        refine tk 9 ?_ (hy:=fun w9 hSw=>by have cc:=cell_later C0.out (hT.trans (hSw.mono hT.size));go_simp;(try with_reducible rfl))
        refine tk 10 ?_
        refine tk 11 ?_
        refine tk 12 ?_
        refine tk 13 ?_ (hy:=fun w9 hSw=>by have cc:=cell_later C0.out (hT.trans (hSw.mono hT.size));go_simp;(try with_reducible rfl))
        refine tk 14 ?_
        refine tk 15 ?_
        refine tk 16 ?_
        refine tk 17 ?_
        refine tk 18 ?_ (hy:=fun w9 hSw=>by have cc:=cell_later C6.out (hT.trans (hSw.mono hT.size));go_simp;(try with_reducible rfl))
        refine tk 19 ?_
        refine tk 20 ?_
        refine tk 21 ?_
        refine tk 22 ?_ (hy:=fun w9 hSw=>by obtain ⟨d0,d1,d2,d3,d4,d5,d6⟩:=N1.out.later (hT.trans (hSw.mono hT.size));go_simp;(try with_reducible rfl))
        refine tk 23 ?_
        refine tk 24 ?_ (hy:=fun w9 hSw=>by have cc:=cell_later C0.out (hT.trans (hSw.mono hT.size));go_simp;(try with_reducible rfl))
        refine tk 25 ?_
        refine tk 26 ?_
        refine tk 27 ?_
        refine dn ?_
        have hB3:=hB.trans (hT.mono hB.size)
        go_wp2
        go_roundw
        case rel=>exact ⟨i+1,HK.out,by go_num,fun j hj=>by by_cases e:j=i;(· rw [e];exact ⟨HT.out,HE.out⟩);exact HD.out j (by omega),hB3⟩
        case measure=>have:=HK.out;simp [intOf];omega
    · have hc:Hid (∀ d,Below wr.heap.size wr d→Calls Tryz.prog 130 #[(x.c i).val] d (RV (.bool false) d)):=fun d h=>(hcc.out d h).mono fun e w' hh=>by
       obtain ⟨r,h1,h2,h3⟩:=hh
       refine ⟨?_,h3⟩
       cases r with
       | true=>exact absurd (h2.1 rfl) ht
       | false=>exact h1
      have HT:=hid ht
      clear ht hcc
      go_wp2_with fail
      refine bg fun d hHeld=>?_
      have hT:=hHeld
      refine tk 0 ?_
      refine tk 1 ?_ (hy:=fun w9 hSw=>by have cc:=cell_later C6.out hSw;go_simp;(try with_reducible rfl))
      refine tk 2 ?_
      refine tk 3 ?_
      refine tk 4 ?_ (hy:=fun w9 hSw=>by obtain ⟨d0,d1,d2,d3,d4,d5,d6⟩:=N1.out.later hSw;go_simp;(try with_reducible rfl))
      refine rd 5 fun K hK=>?_
      go_simp
      refine (hc.out _ hHeld).mono ?_
      rintro e x5 ⟨rfl,hN5⟩
      go_wp2_with fail
      refine up hK hHeld hN5 ?_
      replace hT:=hT.trans (hN5.mono hT.size)
      replace hHeld:=Below.refl x5.heap.size x5
      clear hK K hN5
      refine tk 6 ?_
      refine tk 7 ?_
      refine tn 8 ?_
      refine tn 9 ?_
      refine tn 10 ?_
      refine tn 11 ?_
      refine tn 12 ?_
      refine tn 13 ?_
      refine tn 14 ?_
      refine tn 15 ?_
      refine tn 16 ?_
      refine tn 17 ?_
      refine tn 18 ?_
      refine tn 19 ?_
      refine tn 20 ?_
      refine tn 21 ?_
      refine tn 22 ?_
      refine tn 23 ?_
      refine tn 24 ?_
      refine tn 25 ?_
      refine tn 26 ?_
      refine tk 27 ?_
      refine dn ?_
      have hB3:=hB.trans (hT.mono hB.size)
      go_wp2
      try rw [Exit.noGoto_ret]
      go_ret
      refine ⟨false,rfl,⟨fun h=>(by cases h),fun h=>?_⟩,HB.out.trans (hB3.mono (by omega))⟩
      exact absurd (((treeR_eq x).1 h).2 i HK.out) HT.out
  · obtain rfl:i=x.n:=by omega
    go_wp2
    go_ret
    exact ⟨true,rfl,⟨fun _=>(treeR_eq x).2 ⟨HNR.out fun j hj=>by have:=(HD.out j hj).2;rw [HKK.out];exact this,fun j hj=>(HD.out j hj).1⟩,fun _=>rfl⟩,hw⟩
theorem ret_no {w:World} {f:Nat} {args:Array Value} {P:Prop} (h:Calls Tryz.prog f args w (RV (.bool false) w)) (hr:¬ P) :
 Calls Tryz.prog f args w fun e w'=>∃ r,e=.returned (.bool r)∧(r=true ↔ P)∧Below w.heap.size w w':=ret_iff h ⟨fun h=>(by cases h),fun h=>absurd h hr⟩
theorem leaf_tree {x:X} (hn:x.n=0):TreeR x ↔ NodeR x:=by
 rw [treeR_eq]
 exact ⟨fun h=>h.1,fun h=>⟨h,fun i hi=>by omega⟩⟩
theorem refRightX_any:∀ (x:X) (w:World),IsX w x→XOk x→Calls Tryz.prog 130 #[x.val] w fun e w'=>∃ r,e=.returned (.bool r)∧(r=true ↔ TreeR x)∧Below w.heap.size w w':=by
 refine X.ind fun x ih w hX ok=>?_
 have HI:Hid (∀ i,i < x.n→∀ w,IsX w (x.c i)→Calls Tryz.prog 130 #[(x.c i).val] w fun e w'=>∃ r,e=.returned (.bool r)∧(r=true ↔ TreeR (x.c i))∧Below w.heap.size w w'):=fun i hi w h=>ih i hi w h (((xOk_eq x).1 ok).2.2 i hi)
 have nt:∀ {P:Prop},(TreeR x→P)→¬ P→¬ TreeR x:=fun h g t=>g (h t)
 have nr:TreeR x→NodeR x:=fun h=>((treeR_eq x).1 h).1
 by_cases h1:x.k=1
 · by_cases hs:x.s=⟨#[]⟩
   · by_cases hf:x.f=⟨#[]⟩
     · by_cases hn:x.n=0
       · refine ret_iff (refR_1 x w h1 ⟨hs,hf⟩ hn) ?_
         rw [leaf_tree hn]
         constructor
         · intro h
           exact ⟨fun e=>absurd h1 e,fun _=>⟨hs,hf⟩,.inl ⟨h1,hn,h⟩⟩
         · rintro ⟨-,-,h⟩
           rcases h with h | h | h | h | h
           · exact h.2.2
           all_goals omega
       · refine ret_no (refR_1n x w h1 ⟨hs,hf⟩ hn) fun h=>?_
         obtain ⟨-,-,h⟩:=nr h
         rcases h with h | h | h | h | h <;> omega
     · exact ret_no (refR_1f x w h1 hs hf) fun h=>hf ((nr h).2.1 (by omega)).2
   · exact ret_no (refR_1s x w h1 hs) fun h=>hs ((nr h).2.1 (by omega)).1
 by_cases hv':¬ x.v=val0
 · have hv:=hv'
   have hno:¬ TreeR x:=fun h=>hv ((nr h).1 h1)
   by_cases hk:x.v.k=0
   · by_cases hn:x.v.n=0
     · by_cases hs:x.v.s=⟨#[]⟩
       · exact absurd (by cases hx:x.v;rw [hx] at hk hn hs;simp only at hk hn hs;rw [hk,hn,hs];rfl) hv
       · exact ret_no (refR_vc x w h1 hk hn hs) hno
     · exact ret_no (refR_vb x w h1 hk hn) hno
   · exact ret_no (refR_va x w h1 hk) hno
 have hv:x.v=val0:=Classical.not_not.1 hv'
 by_cases h2:x.k=2
 · by_cases hn:x.n=0
   · cases hs:nameB x.s with
     | false =>
       refine ret_no (refR_2_false x w h2 hv hn ok hs) fun h=>?_
       obtain ⟨-,-,h⟩:=nr h
       rcases h with h | h | h | h | h
       · omega
       · rw [hs] at h;exact absurd h.2.2.1 (by simp)
       all_goals omega
     | true =>
       cases hf:nameB x.f with
       | false =>
         refine ret_no (refR_2_truefalse x w h2 hv hn ok hs hf) fun h=>?_
         obtain ⟨-,-,h⟩:=nr h
         rcases h with h | h | h | h | h
         · omega
         · rw [hf] at h;exact absurd h.2.2.2 (by simp)
         all_goals omega
       | true=>exact ret_iff (refR_2_truetrue x w h2 hv hn ok hs hf) ⟨fun _=>(leaf_tree hn).2 ⟨fun _=>hv,fun e=>absurd h2 e,.inr (.inl ⟨h2,hn,hs,hf⟩)⟩,fun _=>rfl⟩
   · refine ret_no (refR_2n x w h2 hv hn) fun h=>?_
     obtain ⟨-,-,h⟩:=nr h
     rcases h with h | h | h | h | h <;> omega
 by_cases hs':¬ x.s=⟨#[]⟩
 · have hs:=hs'
   exact ret_no (refR_ns x w h1 h2 hv hs) fun h=>hs ((nr h).2.1 h2).1
 have hs:x.s=⟨#[]⟩:=Classical.not_not.1 hs'
 by_cases hf':¬ x.f=⟨#[]⟩
 · have hf:=hf'
   exact ret_no (refR_nf x w h1 h2 hv hs hf) fun h=>hf ((nr h).2.1 h2).2
 have hf:x.f=⟨#[]⟩:=Classical.not_not.1 hf'
 have no:(∀ h:NodeR x,False)→¬ TreeR x:=fun h t=>h (nr t)
 by_cases h3:x.k=3
 · by_cases hn:x.n=1
   · exact refR_3 x w hX HI h3 hv ⟨hs,hf⟩ hn
   · exact ret_no (refR_3n x w h3 hv ⟨hs,hf⟩ hn) (no fun ⟨_,_,h⟩=>by rcases h with h | h | h | h | h <;> omega)
 by_cases h15:x.k=15
 · by_cases hn:x.n=1
   · exact refR_15 x w hX HI h15 hv ⟨hs,hf⟩ hn
   · exact ret_no (refR_15n x w h15 hv ⟨hs,hf⟩ hn) (no fun ⟨_,_,h⟩=>by rcases h with h | h | h | h | h <;> omega)
 by_cases h4:4≤x.k∧x.k≤14
 · by_cases hn:x.n=2
   · exact refR_4 x w hX HI h4 hv ⟨hs,hf⟩ hn
   · exact ret_no (refR_4n x w h4 hv ⟨hs,hf⟩ hn) (no fun ⟨_,_,h⟩=>by rcases h with h | h | h | h | h <;> omega)
 by_cases h16:x.k=16
 · by_cases hn:2≤x.n
   · exact refR_16 x w hX HI h16 hv ⟨hs,hf⟩ hn
   · exact ret_no (refR_16n x w h16 hv ⟨hs,hf⟩ hn) (no fun ⟨_,_,h⟩=>by rcases h with h | h | h | h | h <;> omega)
 by_cases h17:x.k=17
 · by_cases hn:2≤x.n
   · exact refR_17 x w hX HI h17 hv ⟨hs,hf⟩ hn
   · exact ret_no (refR_17n x w h17 hv ⟨hs,hf⟩ hn) (no fun ⟨_,_,h⟩=>by rcases h with h | h | h | h | h <;> omega)
 by_cases hlo:x.k < 1
 · exact ret_no (refR_lo x w hlo hv ⟨hs,hf⟩) (no fun ⟨_,_,h⟩=>by rcases h with h | h | h | h | h <;> omega)
 · exact ret_no (refR_hi x w (by omega) hv ⟨hs,hf⟩) (no fun ⟨_,_,h⟩=>by rcases h with h | h | h | h | h <;> omega)
theorem szZ_small:∀ x:X,x.size≤1048576→szZ x=x.size:=by
 refine X.ind fun x ih h=>?_
 have:∀ m,m≤x.n→accZ (fun i=>szZ (x.c i)) m=1+sumN (fun i=>(x.c i).size) m:=by
  intro m
  induction m with
  | zero=>intro _;rfl
  | succ m ihm =>
    intro hm
    have hp:=x.size_part m (by omega)
    have hq:=sumN_part (f:=fun i=>(x.c i).size) (show m < x.n by omega)
    have hz:=x.size_eq
    simp only [accZ,sumN]
    rw [ihm (by omega),ih m (by omega) (by omega),wrap64]
    omega
 rw [szZ_eq,this x.n (Nat.le_refl _),x.size_eq]
 omega
theorem refCheckX_any (x:X) (w:World) (hX:IsX w x) (ok:XOk x) (hsm:x.size≤1048576):Calls Tryz.prog 78 #[x.val] w fun e w'=>∃ r:Int,e=.returned (.int .i64 r)∧ChkX x r∧Below w.heap.size w w':=by
 obtain ⟨A,hA,hB,hs,hn⟩:=one_box x w
 have HB:=hid hB
 have HN:=hid hn
 obtain ⟨a0,a1,a2,a3,a4,a5,a6⟩:=hn.at0
 have hz:Calls Tryz.prog 20 #[x.val] A (RV (.int .i64 (x.size:Int)) A):=by have:=refSize_any x A (hX.later hB);rwa [szZ_small x hsm] at this
 have HR:Hid (∀ d,Below A.heap.size A d→Calls Tryz.prog 130 #[x.val] d fun e w'=>∃ r,e=.returned (.bool r)∧(r=true ↔ TreeR x)∧Below d.heap.size d w'):=fun d h=>refRightX_any x d ((hX.later hB).later h) ok
 obtain ⟨m,hm⟩:∃ m,m=x.size:=⟨_,rfl⟩
 rw [← hm] at hz
 have HM:=hid hm
 clear hB hn hX ok hsm hm
 by_cases h100:100 < m
 · have h':(100:Int) < (m:Int):=by omega
   have H100:=hid h100
   clear h100
   go_enter Tryz.func78,Tryz.ntmps78
   go_wp2_with (go_at_call 20;refine hz.mono ?_;rintro e w2 ⟨rfl,hB2⟩)
   go_ret
   exact ⟨2,rfl,.inl ⟨by rw [← HM.out];exact H100.out,rfl⟩,HB.out.trans (hB2.mono (by omega))⟩
 · have h':¬ (100:Int) < (m:Int):=by omega
   have H100:Hid (x.size≤100):=by show x.size≤100;rw [← HM.out];omega
   clear h100
   go_enter Tryz.func78,Tryz.ntmps78
   go_wp2_with (first
    | (go_at_call 20;refine hz.mono ?_;rintro e w2 ⟨rfl,hB2⟩;obtain ⟨b0,b1,b2,b3,b4,b5,b6⟩:=(HN.out.later hB2).at0)
    | (go_at_call 130;refine (HR.out _ hB2).mono ?_;rintro e w3 ⟨r,rfl,hr,hB3⟩;have HRR:=hid hr;clear hr;cases r))
   · go_ret
     exact ⟨1,rfl,.inr (.inr ⟨H100.out,fun h=>(by have:=HRR.out.2 h;cases this),rfl⟩),HB.out.trans ((hB2.trans (hB3.mono hB2.size)).mono (by omega))⟩
   · go_ret
     exact ⟨0,rfl,.inr (.inl ⟨H100.out,HRR.out.1 (by first | rfl | trivial),rfl⟩),HB.out.trans ((hB2.trans (hB3.mono hB2.size)).mono (by omega))⟩
end Go.Proofs.YtkfpgkohkhhlhaaGreatDoor
