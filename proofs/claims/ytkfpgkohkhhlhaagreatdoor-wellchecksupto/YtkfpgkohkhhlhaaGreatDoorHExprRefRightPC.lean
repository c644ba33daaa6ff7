/- Texts that the last one stands on. -/
import Derived.Test.YtkfpgkohkhhlhaaGreatDoorHExprRefRightN
set_option maxRecDepth 100000
set_option maxHeartbeats 2000000
namespace Go.Proofs.YtkfpgkohkhhlhaaGreatDoor
open Go.RowKit
theorem refR_16 (x:X) (w:World) (hX:IsX w x) (HI:Hid (∀ i,i < x.n→∀ w,IsX w (x.c i)→Calls Tryz.prog 130 #[(x.c i).val] w fun e w'=>∃ r,e=.returned (.bool r)∧(r=true ↔ TreeR (x.c i))∧Below w.heap.size w w')) (hk:x.k=16) (hv:x.v=val0) (hsf:x.s=⟨#[]⟩∧x.f=⟨#[]⟩) (hn0:2≤x.n) :
 Calls Tryz.prog 130 #[x.val] w fun e w'=>∃ r,e=.returned (.bool r)∧(r=true ↔ TreeR x)∧Below w.heap.size w w':=by
 obtain ⟨A,hA,hB,hs,hn⟩:=one_box x w
 obtain ⟨a0,a1,a2,a3,a4,a5,a6⟩:=hn.at0
 have HB:=hid hB
 have HN:=hid hn
 have HX:=hid hX
 have hlen:=hX.len
 have HNR:Hid ((∀ i,i < x.n→(x.c i).k ≠ x.k)→NodeR x):=(fun h=>⟨fun _=>hv,fun _=>hsf,.inr (.inr (.inr (.inr ⟨by omega,hn0,h⟩)))⟩:(∀ i,i < x.n→(x.c i).k ≠ x.k)→NodeR x)
 have HKK:=hid hk
 have t1:¬ (x.n:Int) < 2:=by omega
 clear hX hn0
 rw [hk] at a0
 clear hk
 rw [hv] at a1 a2 a3
 have v1:val0.k=0:=rfl
 have v2:val0.n=0:=rfl
 have v3:val0.s=⟨#[]⟩:=rfl
 rw [v1] at a1
 rw [v2] at a2
 rw [v3] at a3
 clear v1 v2 v3 hv
 rw [hsf.1] at a4
 rw [hsf.2] at a5
 clear hsf
 clear hB hn
 go_enter Tryz.func130,Tryz.ntmps130
 go_wp2_with fail
 clear t1
 go_loopw [4] (fun u wr=>∃ i:Nat,i≤x.n∧u=.int .i64 i∧Hid (∀ j,j < i→TreeR (x.c j)∧(x.c j).k ≠ 16)∧Below A.heap.size A wr) (fun u _=>x.n - (intOf u).toNat)
 case atStart=>exact ⟨0,Nat.zero_le _,rfl,fun j hj=>by omega,Below.refl _ _⟩
 case round =>
  obtain ⟨i,hi,rfl,HD,hB⟩:=hrel
  have hw:=HB.out.trans (hB.mono (by omega))
  by_cases hin:i < x.n
  · obtain ⟨b,o,ea,hn,hx⟩:=(HX.out.later hw).part hin
    have HK:=hid hin
    have C0:Hid (wr.cell? ⟨w.heap.size,0,none⟩=some (.int .i64 16)):=by have:=(node_on HN.out (hB.mono (by omega))).at0.1;rw [HKK.out] at this;exact this
    have C6:Hid (wr.cell? ⟨w.heap.size,6,none⟩=some (.slice (some ⟨b,o,none⟩) x.n x.cap)):=by have:=(node_on HN.out (hB.mono (by omega))).at0.2.2.2.2.2.2;rw [ea] at this;exact this
    have N1:=hid hn
    have hcc:Hid (∀ d,Below wr.heap.size wr d→Calls Tryz.prog 130 #[(x.c i).val] d fun e w'=>∃ r,e=.returned (.bool r)∧(r=true ↔ TreeR (x.c i))∧Below d.heap.size d w'):=fun d h=>HI.out i hin d (hx.later h)
    clear hx hn ea
    by_cases ht:TreeR (x.c i)
    · have hc:Hid (∀ d,Below wr.heap.size wr d→Calls Tryz.prog 130 #[(x.c i).val] d (RV (.bool true) d)):=fun d h=>(hcc.out d h).mono fun e w' hh=>by
       obtain ⟨r,h1,h2,h3⟩:=hh
       exact ⟨by rw [h1,h2.2 ht],h3⟩
      have HT:=hid ht
      clear ht hcc
      by_cases he:(x.c i).k=16
      · have he':((x.c i).k == 16)=true:=by simpa using he
        have HE:=hid he
        clear he
        go_wp2_with fail
        refine bg fun d hHeld=>?_
        have hT:=hHeld
        refine tk 0 ?_
        refine tk 1 ?_ (hy:=fun w9 hSw=>by have cc:=cell_later C6.out hSw;go_simp;(try with_reducible rfl))
        refine tk 2 ?_
        refine tk 3 ?_
        refine tk 4 ?_ (hy:=fun w9 hSw=>by obtain ⟨d0,d1,d2,d3,d4,d5,d6⟩:=N1.out.later hSw;go_simp;(try with_reducible rfl))
        refine rd 5 fun K hK=>?_
        go_simp
        refine (hc.out _ hHeld).mono ?_
        rintro e x5 ⟨rfl,hN5⟩
        go_wp2_with fail
        refine up hK hHeld hN5 ?_
        replace hT:=hT.trans (hN5.mono hT.size)
        replace hHeld:=Below.refl x5.heap.size x5
        clear hK K hN5
        refine tk 6 ?_
        refine tk 7 ?_
        refine tk 8 ?_
        refine tk 9 ?_ (hy:=fun w9 hSw=>by have cc:=cell_later C0.out (hT.trans (hSw.mono hT.size));go_simp;(try with_reducible rfl))
        refine tk 10 ?_
        refine tk 11 ?_
        refine tn 12 ?_
        refine tn 13 ?_
        refine tn 14 ?_
        refine tk 15 ?_
        refine tk 16 ?_
        refine tk 17 ?_
        refine tk 18 ?_ (hy:=fun w9 hSw=>by have cc:=cell_later C6.out (hT.trans (hSw.mono hT.size));go_simp;(try with_reducible rfl))
        refine tk 19 ?_
        refine tk 20 ?_
        refine tk 21 ?_
        refine tk 22 ?_ (hy:=fun w9 hSw=>by obtain ⟨d0,d1,d2,d3,d4,d5,d6⟩:=N1.out.later (hT.trans (hSw.mono hT.size));go_simp;(try with_reducible rfl))
        refine tk 23 ?_
        refine tk 24 ?_ (hy:=fun w9 hSw=>by have cc:=cell_later C0.out (hT.trans (hSw.mono hT.size));go_simp;(try with_reducible rfl))
        refine tk 25 ?_
        refine tk 26 ?_
        refine tk 27 ?_
        refine dn ?_
        have hB3:=hB.trans (hT.mono hB.size)
        go_wp2
        try rw [Exit.noGoto_ret]
        go_ret
        refine ⟨false,rfl,⟨fun h=>(by cases h),fun h=>?_⟩,HB.out.trans (hB3.mono (by omega))⟩
        exact absurd (HE.out.trans HKK.out.symm) ((((nodeR_many x (by have:=HKK.out;omega)).1 ((treeR_eq x).1 h).1).1.2) i HK.out)
      · have he':((x.c i).k == 16)=false:=by simpa using he
        have HE:=hid he
        clear he
        go_wp2_with fail
        refine bg fun d hHeld=>?_
        have hT:=hHeld
        refine tk 0 ?_
        refine tk 1 ?_ (hy:=fun w9 hSw=>by have cc:=cell_later C6.out hSw;go_simp;(try with_reducible rfl))
        refine tk 2 ?_
        refine tk 3 ?_
        refine tk 4 ?_ (hy:=fun w9 hSw=>by obtain ⟨d0,d1,d2,d3,d4,d5,d6⟩:=N1.out.later hSw;go_simp;(try with_reducible rfl))
        refine rd 5 fun K hK=>?_
        go_simp
        refine (hc.out _ hHeld).mono ?_
        rintro e x5 ⟨rfl,hN5⟩
        go_wp2_with fail
        refine up hK hHeld hN5 ?_
        replace hT:=hT.trans (hN5.mono hT.size)
        replace hHeld:=Below.refl x5.heap.size x5
        clear hK K hN5
        refine tk 6 ?_
        refine tk 7 ?_
        refine tk 8 ?_
        refine tk 9 ?_ (hy:=fun w9 hSw=>by have cc:=cell_later C0.out (hT.trans (hSw.mono hT.size));go_simp;(try with_reducible rfl))
        refine tk 10 ?_
        refine tk 11 ?_
        refine tn 12 ?_
        refine tn 13 ?_
        refine tn 14 ?_
        refine tk 15 ?_
        refine tk 16 ?_
        refine tk 17 ?_
        refine tk 18 ?_ (hy:=fun w9 hSw=>by have cc:=cell_later C6.out (hT.trans (hSw.mono hT.size));go_simp;(try with_reducible rfl))
        refine tk 19 ?_
        refine tk 20 ?_
        refine tk 21 ?_
        refine tk 22 ?_ (hy:=fun w9 hSw=>by obtain ⟨d0,d1,d2,d3,d4,d5,d6⟩:=N1.out.later (hT.trans (hSw.mono hT.size));go_simp;(try with_reducible rfl))
        refine tk 23 ?_
        refine tk 24 ?_ (hy:=fun w9 hSw=>by have cc:=cell_later C0.out (hT.trans (hSw.mono hT.size));go_simp;(try with_reducible rfl))
        refine tk 25 ?_
        refine tk 26 ?_
        refine tk 27 ?_
        refine dn ?_
        have hB3:=hB.trans (hT.mono hB.size)
        go_wp2
        go_roundw
        case rel=>exact ⟨i+1,HK.out,by go_num,fun j hj=>by by_cases e:j=i;(· rw [e];exact ⟨HT.out,HE.out⟩);exact HD.out j (by omega),hB3⟩
        case measure=>have:=HK.out;simp [intOf];omega
    · have hc:Hid (∀ d,Below wr.heap.size wr d→Calls Tryz.prog 130 #[(x.c i).val] d (RV (.bool false) d)):=fun d h=>(hcc.out d h).mono fun e w' hh=>by
       obtain ⟨r,h1,h2,h3⟩:=hh
       refine ⟨?_,h3⟩
       cases r with
       | true=>exact absurd (h2.1 rfl) ht
       | false=>exact h1
      have HT:=hid ht
      clear ht hcc
      go_wp2_with fail
      refine bg fun d hHeld=>?_
      have hT:=hHeld
      refine tk 0 ?_
      refine tk 1 ?_ (hy:=fun w9 hSw=>by have cc:=cell_later C6.out hSw;go_simp;(try with_reducible rfl))
      refine tk 2 ?_
      refine tk 3 ?_
      refine tk 4 ?_ (hy:=fun w9 hSw=>by obtain ⟨d0,d1,d2,d3,d4,d5,d6⟩:=N1.out.later hSw;go_simp;(try with_reducible rfl))
      refine rd 5 fun K hK=>?_
      go_simp
      refine (hc.out _ hHeld).mono ?_
      rintro e x5 ⟨rfl,hN5⟩
      go_wp2_with fail
      refine up hK hHeld hN5 ?_
      replace hT:=hT.trans (hN5.mono hT.size)
      replace hHeld:=Below.refl x5.heap.size x5
      clear hK K hN5
      refine tk 6 ?_
      refine tk 7 ?_
      refine tn 8 ?_
      refine tn 9 ?_
      refine tn 10 ?_
      refine tn 11 ?_
      refine tn 12 ?_
      refine tn 13 ?_
      refine tn 14 ?_
      refine tn 15 ?_
      refine tn 16 ?_
      refine tn 17 ?_
      refine tn 18 ?_
      refine tn 19 ?_
      refine tn 20 ?_
      refine tn 21 ?_
      refine tn 22 ?_
      refine tn 23 ?_
      refine tn 24 ?_
      refine tn 25 ?_
      refine tn 26 ?_
      refine tk 27 ?_
      refine dn ?_
      have hB3:=hB.trans (hT.mono hB.size)
      go_wp2
      try rw [Exit.noGoto_ret]
      go_ret
      refine ⟨false,rfl,⟨fun h=>(by cases h),fun h=>?_⟩,HB.out.trans (hB3.mono (by omega))⟩
      exact absurd (((treeR_eq x).1 h).2 i HK.out) HT.out
  · obtain rfl:i=x.n:=by omega
    go_wp2
    go_ret
    exact ⟨true,rfl,⟨fun _=>(treeR_eq x).2 ⟨HNR.out fun j hj=>by have:=(HD.out j hj).2;rw [HKK.out];exact this,fun j hj=>(HD.out j hj).1⟩,fun _=>rfl⟩,hw⟩
end Go.Proofs.YtkfpgkohkhhlhaaGreatDoor
