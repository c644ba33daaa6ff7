/- Texts that the last one stands on. -/
import Derived.Test.YtkfpgkohkhhlhaaGreatDoorHWlRefKinds
import Derived.Test.YtkfpgkohkhhlhaaGreatDoorHWlCheckAll
import Derived.Test.YtkfpgkohkhhlhaaGreatDoorHQryRefChkMath
set_option maxRecDepth 100000
set_option maxHeartbeats 8000000
namespace Go.Proofs.YtkfpgkohkhhlhaaGreatDoor
open Go.RowKit
theorem RR.at {base:Nat} {w:World} {v:Value} {L:List (List ByteArray)} (h:RR base w v L) (h0:0 < L.length):∃ g cap,v=.slice (some ⟨g,0,none⟩) L.length cap∧L.length≤cap ∧
 ∀ (j:Nat) (l:List ByteArray),L[j]? = some l→∃ a c,w.cell? ⟨g,j,none⟩=some (.slice a l.length c)∧Txs w a l.length (atS l):=by
 obtain ⟨vs,h1,h2⟩:=h
 rcases h1.2 with ⟨_,e⟩ | ⟨g,cap,cur,e,hg,hc,hnc,hcm,hs,ht⟩
 · omega
 · refine ⟨g,cap,e,hnc,fun j l hj=>?_⟩
   obtain ⟨u,h3,h4⟩:=h2 j l hj
   obtain ⟨a,c,rfl⟩:=row_slice h4
   refine ⟨a,c,?_,own_txs' h4⟩
   have hjl:j < L.length:=(List.getElem?_eq_some_iff.1 hj).1
   rw [← ht,List.getElem?_take_of_lt (by omega),Array.getElem?_toList] at h3
   simp only [World.cell?,hc]
   exact h3
theorem filter_take (P:ByteArray→Bool) (l:List ByteArray) (i:Nat) (h:i < l.length):(l.take (i+1)).filter P=(l.take i).filter P ++ (if P l[i]=true then [l[i]] else []):=by
 rw [List.take_succ_eq_append_getElem h,List.filter_append]
 congr 1
 by_cases e:P l[i]=true
 · simp [e]
 · simp [e]
theorem all_take (r:List (List ByteArray)) (t:ByteArray) (k:Nat) (h:k < r.length):((r.take (k+1)).all fun g=>memB g t)=((r.take k).all (fun g=>memB g t) && memB r[k] t):=by
 rw [List.take_succ_eq_append_getElem h,List.all_append]
 simp
theorem refAhead_any (x:Pt) (s:ByteArray) (w:World) (hX:IsP w x) (hsm:x.size≤1048576) :
 Calls Tryz.prog 12 #[x.val,.string s] w fun e w'=>∃ v,e=.returned v∧w'.ownsRow w.heap.size 9 1 v (aheadL s x).length (cellsS (aheadL s x))∧Below w.heap.size w w':=by
 obtain ⟨A,hA,hB,hs,hn⟩:=boxP_one x w
 obtain ⟨a0,a1,a2,a3,a4,a5⟩:=hn.at0
 have HB:=hid hB
 have CA:=aheads_any s x A (hX.later hB) hsm
 have HAL:Hid (aheadL s x=match ahL s x with | []=>[] | l :: r=>l.filter fun t=>r.all fun g=>memB g t):=aheadL_of s x
 have HLL:Hid ((ahL s x).length < 1048576):=Nat.lt_of_lt_of_le (ahL_len s x) hsm
 have HLN:Hid (∀ l ∈ ahL s x,l.length≤1048576):=fun l hl=>Nat.le_trans (ahL_part s x l hl) hsm
 clear hB hn hs hX hsm
 go_enter Tryz.func12,Tryz.ntmps12
 cases hL:ahL s x with
 | nil =>
   go_wp2_with (go_at_call 40;refine CA.mono ?_;clear CA;rintro e w1 ⟨v1,rfl,hr1,hB1⟩;rw [hL] at hr1;obtain ⟨b1,c1,e1⟩:=hr1.slice;rw [List.length_nil] at e1;subst e1;clear a0 a1 a2 a3 a4 a5 hA)
   go_ret
   refine ⟨_,rfl,?_,HB.out.trans (hB1.mono HB.out.size)⟩
   rw [HAL.out,hL]
   exact World.ownsRow_nil _ _ _ _
 | cons l0 r =>
   obtain ⟨n,hn⟩:∃ n,n=r.length+1:=⟨_,rfl⟩
   obtain ⟨n0,hn0⟩:∃ n0,n0=l0.length:=⟨_,rfl⟩
   have hln:n≤1048576:=by have:=HLL.out;rw [hL,List.length_cons] at this;omega
   have hl0:n0≤1048576:=by rw [hn0];exact HLN.out l0 (by rw [hL];simp)
   have hn1:0 < n:=by omega
   have HN:=hid hn
   have HN0:=hid hn0
   have hnz:((n:Int) == 0)=false:=by simp;omega
   clear hn hn0
   go_wp2_with (go_at_call 40;refine CA.mono ?_;clear CA;rintro e w1 ⟨v1,rfl,hr1,hB1⟩;rw [hL] at hr1;obtain ⟨g,cap,e1,hcap,hat⟩:=hr1.at (by simp);rw [List.length_cons,← HN.out] at e1 hcap;subst e1;clear a0 a1 a2 a3 a4 a5 hA)
   obtain ⟨ba,bc,c0,hT0⟩:=hat 0 l0 rfl
   rw [← HN0.out] at c0 hT0
   have HAT:Hid (∀ (j:Nat) (l:List ByteArray),r[j]? = some l→∃ a c,w1.cell? ⟨g,j+1,none⟩=some (.slice a l.length c)∧Txs w1 a l.length (atS l)):=fun j l hj=>hat (j+1) l (by rw [List.getElem?_cons_succ];exact hj)
   have HT0:=hid hT0
   have HC0:=hid c0
   have HBA:=hid hB1
   have HL:=hid hL
   have HRL:Hid (∀ l ∈ r,l.length≤1048576):=fun l hl=>HLN.out l (by rw [hL];exact List.mem_cons_of_mem _ hl)
   obtain ⟨P,hP⟩:∃ P,P=fun t=>r.all fun g=>memB g t:=⟨_,rfl⟩
   have HP:=hid hP
   clear hat hT0 c0 hB1 hr1 hL hP HLL HLN
   go_loopw [6,7] (fun ov iv w2=>∃ (i:Nat) (v:Value),i≤n0∧v=ov∧iv=.int .i64 i∧Hid (w2.ownsRow w1.heap.size 9 1 v ((l0.take i).filter P).length (cellsS ((l0.take i).filter P)))∧Hid (Below w1.heap.size w1 w2)) (fun _ iv _=>n0 - (intOf iv).toNat)
   case atStart=>exact ⟨0,_,Nat.zero_le _,rfl,rfl,World.ownsRow_nil _ _ _ _,Below.refl _ _⟩
   case round =>
    obtain ⟨i,v,hi,rfl,rfl,HO,HB2⟩:=hrel
    have c0:=cell_later HC0.out HB2.out
    by_cases hin:i < n0
    · obtain ⟨t,ht⟩:∃ t,t=atS l0 i:=⟨_,rfl⟩
      have HTT:=hid ht
      have HIN:=hid hin
      obtain ⟨w2,hw2⟩:∃ w2,w2=wr:=⟨_,rfl⟩
      rw [← hw2] at HO HB2
      have HW2:Hid (Below w2.heap.size w2 wr):=by rw [hw2];exact Below.refl _ _
      clear hw2 ht
      go_wp2_with fail
      clear c0 hin hi
      go_loopw [8,9] (fun bv kv w3=>∃ (m:Nat) (b:Bool),m≤n∧bv=.bool b∧kv=.int .i64 m∧Hid (1≤m∧b=(r.take (m - 1)).all fun g=>memB g t)∧Hid (Below w2.heap.size w2 w3)) (fun _ kv _=>n - (intOf kv).toNat)
      case atStart=>exact ⟨1,true,by omega,rfl,rfl,⟨Nat.le_refl _,rfl⟩,HW2.out⟩
      case round =>
       obtain ⟨m,b,hm,rfl,rfl,HBM,HB3⟩:=hrel
       obtain ⟨k,hkm⟩:∃ k,m=k+1:=⟨m - 1,by have:=HBM.out.1;omega⟩
       have HM:=hid hkm
       have HBB:Hid (b=(r.take k).all fun g=>memB g t):=by have:=HBM.out.2;rw [hkm,Nat.add_sub_cancel] at this;exact this
       clear HBM
       have HB13:Hid (Below w1.heap.size w1 wr):=HB2.out.trans (HB3.out.mono HB2.out.size)
       have hin:=HIN.out
       obtain ⟨bb,oo,rfl,hci⟩:=HT0.out (by omega)
       have ci:=cell_later (hci i hin) HB13.out
       rw [← HTT.out] at ci
       have c0:=cell_later HC0.out HB13.out
       by_cases hk1:m < n
       · have hkr:k < r.length:=by have:=HN.out;omega
         obtain ⟨ak,ck2,ck,hTk⟩:=HAT.out k r[k] (List.getElem?_eq_getElem hkr)
         have ck:=cell_later ck HB13.out
         rw [← hkm] at ck
         have HTK:Hid (Txs wr ak r[k].length (atS r[k])):=hTk.later HB13.out
         have hlk:r[k].length≤9223372036854775807:=Nat.le_trans (HRL.out r[k] (List.getElem_mem hkr)) (by decide)
         have hst:=all_take r t k hkr
         rw [← HBB.out,← hkm] at hst
         have HST:=hid hst
         have HKN:=hid hk1
         clear hst hkm
         cases b
         · go_wp2_with fail
           refine bg fun d hHeld=>?_
           have hT:=hHeld
           refine tk 0 ?_
           refine tk 1 ?_
           refine tn 2 ?_
           refine tn 3 ?_
           refine tn 4 ?_
           refine tn 5 ?_
           refine tn 6 ?_
           refine tn 7 ?_
           refine tn 8 ?_
           refine tn 9 ?_
           refine tn 10 ?_
           refine tn 11 ?_
           refine tn 12 ?_
           refine tk 13 ?_
           refine tk 14 ?_
           refine dn ?_
           go_wp2_with fail
           go_roundw
           case rel=>exact ⟨m+1,false,HKN.out,rfl,by go_num,⟨by omega,by rw [Nat.add_sub_cancel,HST.out];rfl⟩,HB3.out.trans (hT.mono HB3.out.size)⟩
           case measure=>have:=HKN.out;simp [intOf];omega
         · go_wp2_with fail
           refine bg fun d hHeld=>?_
           have hT:=hHeld
           refine tk 0 ?_
           refine tk 1 ?_
           refine tk 2 ?_
           refine tk 3 ?_
           refine tk 4 ?_
           refine tk 5 ?_ (hy:=fun w9 hSw=>by have cc:=cell_later ck hSw;go_simp;(try with_reducible rfl))
           refine tk 6 ?_
           refine tk 7 ?_
           refine tk 8 ?_ (hy:=fun w9 hSw=>by have cc:=cell_later c0 hSw;go_simp;(try with_reducible rfl))
           refine tk 9 ?_
           refine tk 10 ?_
           refine tk 11 ?_ (hy:=fun w9 hSw=>by have cc:=cell_later ci hSw;go_simp;(try with_reducible rfl))
           refine rd 12 fun K hK=>?_
           go_simp
           refine (refIn_any ak _ ck2 _ t _ (HTK.out.later hT) rfl hlk).mono ?_
           rintro e x12 ⟨rfl,hx12⟩
           replace hx12:=hx12.symm
           subst hx12
           go_wp2_with fail
           refine hK.out _ _ hHeld (fun _=>?_)
           clear hK K
           try simp only [Act.put,s_put,s_0,s_1]
           refine tk 13 ?_
           refine tk 14 ?_
           refine dn ?_
           go_wp2_with fail
           go_roundw
           case rel=>exact ⟨m+1,memB r[k] t,HKN.out,rfl,by go_num,⟨by omega,by rw [Nat.add_sub_cancel,HST.out,Bool.true_and]⟩,HB3.out.trans (hT.mono HB3.out.size)⟩
           case measure=>have:=HKN.out;simp [intOf];omega
       · obtain rfl:m=n:=by omega
         clear hkm
         have hpt:b=P t:=by
          rw [HBB.out,HP.out]
          have:=HN.out
          have:=HM.out
          rw [show k=r.length by omega,List.take_length]
         have hfl:=filter_take P l0 i (by rw [← HN0.out];exact hin)
         rw [show l0[i]'(by rw [← HN0.out];exact hin)=t by rw [HTT.out];simp [atS,HN0.out ▸ hin],← hpt] at hfl
         have HFL:=hid hfl
         have hlq:((l0.take i).filter P).length≤1048576:=by
          have h1:=List.length_filter_le P (l0.take i)
          rw [List.length_take] at h1
          omega
         have HO3:=own_laterS HO.out HB3.out
         obtain ⟨al,cl,rfl⟩:=row_slice HO3
         have h1s:w1.heap.size≤wr.heap.size:=HB13.out.size
         cases b
         · clear hpt hfl
           go_wp2_with fail
           go_roundw
           case rel=>exact ⟨i+1,_,HIN.out,rfl,by simp,by show World.ownsRow _ _ _ _ _ _ _;rw [HFL.out,if_neg (by decide),List.append_nil];exact HO3,HB13.out⟩
           case measure=>have:=HIN.out;simp [intOf];omega
         · obtain ⟨v4,w4,r4,o4,b4⟩:=push_str HO3 h1s (by omega) t
           have HR4:=hid r4
           have HB4:Hid (Below w1.heap.size w1 w4):=HB13.out.trans b4
           have HO4:=hid o4
           clear hpt hfl r4 b4 o4
           go_wp2_with (at_builtin;refine wpList_append_run rfl (.tmp 45) (.tmp 52) 37 rfl _ _ _ rfl rfl HR4.out ?_)
           go_roundw
           case rel=>exact ⟨i+1,v4,HIN.out,rfl,by simp,by rw [HFL.out,if_pos rfl,List.length_append];exact HO4.out,HB4.out⟩
           case measure=>have:=HIN.out;simp [intOf];omega
    · obtain rfl:n0=i:=by omega
      obtain ⟨al,cl,rfl⟩:=row_slice HO.out
      go_wp2_with fail
      go_ret
      refine ⟨_,rfl,?_,HB.out.trans ((HBA.out.trans (HB2.out.mono HBA.out.size)).mono HB.out.size)⟩
      rw [HAL.out,HL.out]
      show World.ownsRow _ _ _ _ _ (l0.filter _).length (cellsS (l0.filter _))
      rw [← HP.out]
      have hfin:(l0.take n0).filter P=l0.filter P:=by rw [HN0.out,List.take_length]
      rw [← hfin]
      exact own_low3 HO.out (Nat.le_trans HB.out.size HBA.out.size)
theorem boxQX (q:Qy) (x:X) (w:World):∃ A,(w.alloc (.cells q.cells 29)).alloc (.cells x.cells 54)=A∧Below w.heap.size w A∧QB A w.heap.size q∧Node A (w.heap.size+1) 0 x:=by
 refine ⟨_,rfl,(nwB w _).alloc (by simp) _,(QB.new w q).later (nwB _ _),?_⟩
 have:=node_new (w.alloc (.cells q.cells 29)) 54 x
 rw [World.size_alloc] at this
 exact this
def nts (p:Pt) (k:Int) (L:List ByteArray) (i:Nat):List ByteArray:=(L.take i).filter (kindsB k p)
theorem nts_step (p:Pt) (k:Int) (L:List ByteArray) (i:Nat) (h:i < L.length):nts p k L (i+1)=nts p k L i ++ (if kindsB k p (atS L i)=true then [atS L i] else []):=by
 unfold nts
 rw [filter_take _ _ _ h]
 simp [atS,h]
theorem nts_len (p:Pt) (k:Int) (L:List ByteArray) (i:Nat):(nts p k L i).length≤L.length:=Nat.le_trans (List.length_filter_le _ _) (by rw [List.length_take];omega)
theorem refCond14_any (q:Qy) (x:X) (w:World) (hQ:IsQ w q) (hsm:q.bulk≤1048576) (hX:IsX w x) (hxs:x.size≤1048576) :
 Calls Tryz.prog 31 #[q.val,x.val] w (RV (.bool (togB q.p (varsX x))) w):=by
 obtain ⟨A,hA,hBA,hqb,hnx⟩:=boxQX q x w
 obtain ⟨a0,a1,a2,a3,a4,a5,a6⟩:=hnx.at0
 have hps:q.p.size≤1048576:=by unfold Qy.bulk at hsm;omega
 have CV:=refVars_any x A (hX.later hBA) hxs
 have HQP:IsP A q.p:=(hQ.later hBA).p
 have HK:Hid (∀ k s d,Below A.heap.size A d→Calls Tryz.prog 85 #[q.p.val,.int .i64 k,.string s] d (RV (.bool (kindsB k q.p s)) d)):=fun k s d hd=>refKinds_any q.p k s d (HQP.later hd) hps
 have HAH:Hid (∀ s d,Below A.heap.size A d→Calls Tryz.prog 12 #[q.p.val,.string s] d _):=fun s d hd=>refAhead_any q.p s d (HQP.later hd) hps
 have HAL:Hid (∀ s,(aheadL s q.p).length≤1048576):=fun s=>aheadL_len s q.p hps
 have hlx:(varsX x).length≤1048576:=Nat.le_trans (vars_len x) hxs
 have HT:Hid (togB q.p (varsX x)=togA q.p (varsX x) ((varsX x).filter (kindsB 6 q.p)) ((varsX x).filter (kindsB 5 q.p))):=tog_doc q.p (varsX x)
 obtain ⟨L,hL⟩:∃ L,L=varsX x:=⟨_,rfl⟩
 rw [← hL] at CV hlx HT ⊢
 have HN0:Hid (∀ k,L.filter (kindsB k q.p)=nts q.p k L L.length):=fun k=>by unfold nts;rw [List.take_length]
 obtain ⟨r,hr⟩:∃ r,r=togB q.p L:=⟨_,rfl⟩
 rw [← hr] at HT ⊢
 have HBA:=hid hBA
 have HQB:=hid hqb
 clear hBA hqb hnx hQ hsm hX hxs hL hr hps HQP
 go_enter Tryz.func31,Tryz.ntmps31
 go_wp2_with (go_at_call 44;refine CV.mono ?_;clear CV;rintro e w1 ⟨v1,rfl,ho1,hB1⟩;obtain ⟨al,cl,rfl⟩:=row_slice ho1;have HTX:Hid (Txs w1 al L.length (atS L)):=own_txs' ho1;clear ho1)
 clear a0 a1 a2 a3 a4 a5 a6 hA
 have HB1:=hid hB1
 obtain ⟨n,hn⟩:∃ n,n=L.length:=⟨_,rfl⟩
 rw [← hn] at HTX hlx ⊢
 have HN:=hid hn
 clear hB1 hn
 go_loopw [6,7,8,9] (fun tv nv mv iv wr=>∃ (i:Nat) (t:ByteArray) (cn cm:Nat),i≤n∧tv=.string t∧nv=.int .i64 cn∧mv=.int .i64 cm∧iv=.int .i64 i∧Hid (t=lastS (nts q.p 6 L i)∧cn=(nts q.p 6 L i).length∧cm=(nts q.p 5 L i).length)∧Hid (Below w1.heap.size w1 wr)) (fun _ _ _ iv _=>n - (intOf iv).toNat)
 case atStart=>exact ⟨0,_,0,0,Nat.zero_le _,rfl,rfl,rfl,rfl,⟨rfl,rfl,rfl⟩,Below.refl _ _⟩
 case round =>
  obtain ⟨i,t,cn,cm,hi,rfl,rfl,rfl,rfl,HC,HB2⟩:=hrel
  have hAr:=HB1.out.trans (HB2.out.mono HB1.out.size)
  have HAr:=hid hAr
  obtain ⟨⟨d0,d1,d2,d3,d4,d5⟩,-⟩:=(HQB.out.later hAr).at0
  clear hAr
  have hcn:cn≤1048576:=by have h1:=nts_len q.p 6 L i;have h2:=HC.out.2.1;have h3:=HN.out;omega
  have hcm:cm≤1048576:=by have h1:=nts_len q.p 5 L i;have h2:=HC.out.2.2;have h3:=HN.out;omega
  by_cases hin:i < n
  · obtain ⟨b1,o1,rfl,hcs⟩:=(HTX.out.later HB2.out) (by omega)
    have ci:=hcs i hin
    have HCI:=hid ci
    obtain ⟨s,hs⟩:∃ s,s=atS L i:=⟨_,rfl⟩
    rw [← hs] at ci HCI
    have st6:=nts_step q.p 6 L i (by have:=HN.out;omega)
    have st5:=nts_step q.p 5 L i (by have:=HN.out;omega)
    rw [← hs] at st6 st5
    have HS6:=hid st6
    have HS5:=hid st5
    have HIN:=hid hin
    clear hcs hs st6 st5 hi
    have K6:Hid (∀ d,Below A.heap.size A d→_):=fun d hd=>HK.out 6 s d hd
    have K5:Hid (∀ d,Below A.heap.size A d→_):=fun d hd=>HK.out 5 s d hd
    cases k6:kindsB 6 q.p s
    all_goals cases k5:kindsB 5 q.p s
    all_goals have H6:=hid k6
    all_goals have H5:=hid k5
    all_goals rw [k6] at K6
    all_goals rw [k5] at K5
    all_goals clear k6 k5
    all_goals go_wp2_with fail
    all_goals go_region_with (go_at_call 85;refine (K6.out _ HAr.out.drew).mono ?_;rintro e w3 ⟨rfl,hB3⟩)
    all_goals have hr3:Below wr.heap.size wr w3:=(Below.refl _ _).drew.trans hB3
    all_goals have hA3:=HAr.out.trans (hr3.mono HAr.out.size)
    all_goals have c3:=cell_later HCI.out hr3
    all_goals obtain ⟨⟨f0,f1,f2,f3,f4,f5⟩,-⟩:=(HQB.out.later hA3).at0
    all_goals clear K6 d0 d1 d2 d3 d4 d5 ci hB3
    all_goals go_wp2_with fail
    all_goals go_region_with (go_at_call 85;refine (K5.out _ hA3.drew).mono ?_;rintro e w4 ⟨rfl,hB4⟩)
    all_goals have hr4:Below wr.heap.size wr w4:=hr3.drew.trans (hB4.mono hr3.drew.size)
    all_goals clear K5 hB4 c3 f0 f1 f2 f3 f4 f5
    all_goals go_wp2_with fail
    all_goals go_roundw
    all_goals first
     | (case measure=>have:=HIN.out;simp [intOf];omega)
     | (case rel =>
         obtain ⟨e1,e2,e3⟩:=HC.out
         refine ⟨i+1,_,_,_,HIN.out,rfl,rfl,rfl,by simp,⟨?_,?_,?_⟩,HB2.out.trans (hr4.mono HB2.out.size)⟩
         · rw [HS6.out,H6.out];simp [lastS,e1]
         · rw [HS6.out,H6.out];simp [e2]
         · rw [HS5.out,H5.out];simp [e3])
  · obtain rfl:i=n:=by omega
    obtain ⟨e1,e2,e3⟩:=HC.out
    have hT:=HT.out
    rw [HN0.out 6,HN0.out 5,← HN.out] at hT
    clear HC HT HN0 hin hi
    generalize nts q.p 6 L i=N6 at e1 e2 hT
    generalize nts q.p 5 L i=N5 at e3 hT
    unfold togA at hT
    rw [← e2,← e3,← e1] at hT
    clear e1 e2 e3
    by_cases h1:1 < cn
    · rw [if_pos (.inl h1)] at hT
      have HR:=hid hT
      have t1:(1:Int) < (cn:Int):=by omega
      clear hT h1
      go_wp2_with fail
      go_ret
      exact ⟨by rw [HR.out];rfl,HBA.out.trans (HAr.out.mono HBA.out.size)⟩
    · by_cases h2:1 < cm
      · rw [if_pos (.inr h2)] at hT
        have HR:=hid hT
        have t1:¬ (1:Int) < (cn:Int):=by omega
        have t2:(1:Int) < (cm:Int):=by omega
        clear hT h1 h2
        go_wp2_with fail
        go_ret
        exact ⟨by rw [HR.out];rfl,HBA.out.trans (HAr.out.mono HBA.out.size)⟩
      · rw [if_neg (fun h=>h.elim h1 h2)] at hT
        have t1:¬ (1:Int) < (cn:Int):=by omega
        have t2:¬ (1:Int) < (cm:Int):=by omega
        by_cases h0:cn=0
        · rw [if_pos h0] at hT
          have HR:=hid hT
          have t0:((cn:Int) == 0)=true:=by simp [h0]
          clear hT h1 h2 h0
          go_wp2_with fail
          go_ret
          exact ⟨by rw [HR.out];rfl,HBA.out.trans (HAr.out.mono HBA.out.size)⟩
        · rw [if_neg h0] at hT
          have t0:((cn:Int) == 0)=false:=by simp;omega
          have HR:=hid hT
          have CH:=HAH.out t wr HAr.out
          have HALt:Hid ((aheadL t q.p).length≤1048576):=HAL.out t
          obtain ⟨H,hH⟩:∃ H,H=aheadL t q.p:=⟨_,rfl⟩
          rw [← hH] at CH HR HALt
          clear hT h1 h2 h0 hH HAH HAL
          go_wp2_with (go_at_call 12;refine CH.mono ?_;clear CH;rintro e w5 ⟨v5,rfl,ho5,hB5⟩;obtain ⟨a5,c5,rfl⟩:=row_slice ho5;have HT5:Hid (Txs w5 a5 H.length (atS H)):=own_txs' ho5;clear ho5)
          have HTX5:Hid (Txs w5 al i (atS L)):=(HTX.out.later HB2.out).later hB5
          have HA5:Hid (Below A.heap.size A w5):=HAr.out.trans (hB5.mono HAr.out.size)
          clear d0 d1 d2 d3 d4 d5 hB5 HTX HB2 HAr HK t0 t1 t2
          go_loopw [11] (fun iv w6=>∃ j:Nat,j≤i∧iv=.int .i64 j∧Hid (∀ m,m < j→(decide (atS L m=t) || memB H (atS L m))=true)∧Hid (Below w5.heap.size w5 w6)) (fun iv _=>i - (intOf iv).toNat)
          case atStart=>exact ⟨0,Nat.zero_le _,rfl,fun m hm=>absurd hm (Nat.not_lt_zero _),Below.refl _ _⟩
          case round =>
           obtain ⟨j,hj,rfl,HM,HB6⟩:=hrel
           by_cases hji:j < i
           · obtain ⟨b1,o1,rfl,hcs⟩:=(HTX5.out.later HB6.out) (by omega)
             have cj:=hcs j hji
             have HCJ:=hid cj
             have HJI:=hid hji
             have nx:(decide (atS L j=t) || memB H (atS L j))=true→∀ m,m < j+1→(decide (atS L m=t) || memB H (atS L m))=true:=fun h m hm=>by
              by_cases e:m=j
              · rw [e];exact h
              · exact HM.out m (by omega)
             have NX:=hid nx
             have HJM:Hid (atS L j ∈ L):=by rw [mem_atS];exact ⟨j,by rw [← HN.out];exact hji,rfl⟩
             generalize atS L j=s at cj HCJ NX HJM
             clear hcs nx hj
             by_cases hst:s=t
             · have q1:=str_yes hst
               have q2:=str_yes hst.symm
               have HZ:=hid hst
               clear hst
               go_wp2_with fail
               go_roundw
               case rel=>exact ⟨j+1,HJI.out,by simp,NX.out (by rw [decide_eq_true HZ.out];rfl),HB6.out⟩
               case measure=>have:=HJI.out;simp [intOf];omega
             · have q1:=str_not hst
               have q2:=str_not (fun h=>hst (Eq.symm h))
               have HZ:=hid hst
               clear hst
               have CI:=refIn_any a5 _ c5 H s wr (HT5.out.later HB6.out) rfl (Nat.le_trans HALt.out (by decide))
               cases hm:memB H s
               all_goals have HH:=hid hm
               all_goals rw [hm] at CI
               all_goals clear hm
               · go_wp2_with (go_at_call 41;refine CI.mono ?_;clear CI;rintro e w7 ⟨rfl,rfl⟩)
                 go_ret
                 have hr:r=false:=by
                  rw [HR.out,Bool.eq_false_iff]
                  intro h
                  have:=List.all_eq_true.1 h s HJM.out
                  rw [HH.out,decide_eq_false HZ.out] at this
                  cases this
                 exact ⟨by rw [hr];rfl,HBA.out.trans ((HA5.out.trans (HB6.out.mono HA5.out.size)).mono HBA.out.size)⟩
               · go_wp2_with (go_at_call 41;refine CI.mono ?_;clear CI;rintro e w7 ⟨rfl,rfl⟩)
                 go_roundw
                 case rel=>exact ⟨j+1,HJI.out,by simp,NX.out (by rw [HH.out];simp),HB6.out⟩
                 case measure=>have:=HJI.out;simp [intOf];omega
           · obtain rfl:j=i:=by omega
             go_wp2_with fail
             go_ret
             have hr:r=true:=by
              rw [HR.out,List.all_eq_true]
              intro s hs
              obtain ⟨m,hm,rfl⟩:=mem_atS.1 hs
              exact HM.out m (by rw [HN.out];exact hm)
             exact ⟨by rw [hr];rfl,HBA.out.trans ((HA5.out.trans (HB6.out.mono HA5.out.size)).mono HBA.out.size)⟩
theorem az_next {q:Qy} {ns:Nat} {Q:Nat→Sch} {k:Nat} (h:∀ j,j < k→Az q ns Q j 0) (h0:Az q ns Q k 0):∀ j,j < k+1→Az q ns Q j 0:=fun j hj=>by
 by_cases e:j=k
 · rw [e];exact h0
 · exact h j (by omega)
theorem f1_cells (l:List Pt):f1 l=cellsS (l.map (·.s)):=by simp [f1,cellsS]
theorem f2_cells (l:List Pt):f2 l=cellsS (l.map (·.t)):=by simp [f2,cellsS]
theorem key_same {p:Pt} {ns:Nat} {Q:Nat→Sch} {key:ByteArray} {z:Int} (h:FstR (KeyT fun i=>fldT ns Q (fstT p i) key) (fstL p).length z):FstR (KeyR (lookW p ns Q) (fstV p) key) (fstL p).length z:=by
 have lk:∀ i,i < (fstL p).length→lookW p ns Q (fstV p i) key=fldT ns Q (fstT p i) key:=fun i hi=>by
  refine look_fldT key (idx_at (fstV p) (fstV p i) _ i hi rfl fun j hj e=>?_)
  have hnd:=first_nodup (usesP p)
  have hl:((fstL p).map (·.s)).length=(fstL p).length:=by simp
  have e':((fstL p).map (·.s))[j]'(by omega)=((fstL p).map (·.s))[i]'(by omega):=by
   simpa [fstV,atS,hi,Nat.lt_trans hj hi] using e
  exact absurd e' (List.pairwise_iff_getElem.1 hnd j i (by rw [hl];omega) (by rw [hl];omega) hj)
 have hR:∀ i z,i < (fstL p).length→KeyT (fun i=>fldT ns Q (fstT p i) key) i z→KeyR (lookW p ns Q) (fstV p) key i z:=fun i z hi h=>by
  unfold KeyT at h
  unfold KeyR
  rw [kindF_opk,kindF_opk,lk i hi,lk 0 (by omega)]
  exact h
 rcases h with ⟨h1,h2⟩ | ⟨h1,i,hi,h2,h3⟩
 · exact .inl ⟨h1,fun i hi=>hR i 0 hi (h2 i hi)⟩
 · exact .inr ⟨h1,i,hi,fun j hj=>hR j 0 (by omega) (h2 j hj),hR i z hi h3⟩
def NewD (q:Qy) (a:Option Addr) (ns cs:Nat) (Q:Nat→Sch) (n:Nat) (nz:Int) (av:Option Addr) (cv:Nat) (at_:Option Addr) (ct:Nat) (d:World) (e:Ending) (w':World):Prop :=
 (nz=0∧∃ pn,e=.returned (.tuple #[.pointer (some ⟨pn,0,none⟩),.int .i64 0])∧RefN w' pn a ns cs Q av n cv (fstV q.p) at_ ct (fstT q.p)∧Below d.heap.size d w') ∨ (¬ nz=0∧e=.returned (.tuple #[.pointer none,.int .i64 nz])∧Below d.heap.size d w')
structure RefC (A:World) (a:Option Addr) (ns cs:Nat) (Q:Nat→Sch) (q:Qy) (n:Nat) (nz:Int):Prop where
 made:∀ d,Below A.heap.size A d→Calls Tryz.prog 26 #[q.p.val] d fun e w'=>∃ z:Int,e=.returned (.int .i64 z)∧MadeZ q.p z∧Below d.heap.size d w'
 tail1:∀ i d,HasTail q.p i→Below A.heap.size A d→Calls Tryz.prog 27 #[q.p.val] d (RV (.tuple #[(q.p.c i).val,.bool true]) d)
 tail0:∀ d,(∀ i,¬ HasTail q.p i)→Below A.heap.size A d→Calls Tryz.prog 27 #[q.p.val] d (RV (.tuple #[.agg zeroP,.bool false]) d)
 vars:∀ d,Below A.heap.size A d→Calls Tryz.prog 28 #[q.p.val] d fun e w'=>∃ av cv at_ ct a3 c3,e=.returned (.tuple #[.slice av n cv,.slice at_ n ct,.slice a3 n c3])∧Txs w' av n (fstV q.p)∧Txs w' at_ n (fstT q.p)∧Below d.heap.size d w'
 new:∀ av cv at_ ct d,Below A.heap.size A d→Txs d av n (fstV q.p)→Txs d at_ n (fstT q.p)→Calls Tryz.prog 29 #[.slice a ns cs,.slice av n cv,.slice at_ n ct] d (NewD q a ns cs Q n nz av cv at_ ct d)
 kind:∀ av cv at_ ct pn i d,nz=0→i < q.n→Below A.heap.size A d→RefN d pn a ns cs Q av n cv (fstV q.p) at_ ct (fstT q.p)→Calls Tryz.prog 30 #[.pointer (some ⟨pn,0,none⟩),(q.c i).val] d fun e w'=>∃ K E,e=.returned (.int .i64 (condZ K E))∧KindIs (lookW q.p ns Q) (q.c i) K E∧Below d.heap.size d w'
 cond:∀ i d,i < q.n→Below A.heap.size A d→Calls Tryz.prog 31 #[q.val,(q.c i).val] d (RV (.bool (togB q.p (varsX (q.c i)))) d)
 key:∀ at_ ct d,nz=0→Below A.heap.size A d→Txs d at_ n (fstT q.p)→Calls Tryz.prog 32 #[.slice a ns cs,.slice at_ n ct,.string q.key] d fun e w'=>∃ z,e=.returned (.int .i64 z)∧Az q ns Q 6 z∧Below d.heap.size d w'
 item:∀ av cv at_ ct pn i d,nz=0→Below A.heap.size A d→RefN d pn a ns cs Q av n cv (fstV q.p) at_ ct (fstT q.p)→Calls Tryz.prog 33 #[.slice a ns cs,.pointer (some ⟨pn,0,none⟩),q.p.val,(q.it i).val] d (RV (.int .i64 (itemZ (lookW q.p ns Q) q.p (q.it i))) d)
theorem refC_any (A:World) (a:Option Addr) (ns cs:Nat) (Q:Nat→Sch) (q:Qy) (hS:Schs A a ns Q) (hQ:IsQ A q) (hok:QOk q) (hsm:q.bulk≤1048576):RefC A a ns cs Q q (fstL q.p).length (newZ (fstL q.p).length (fstL q.p).length (fstT q.p) ns Q):=by
 have hps:q.p.size≤1048576:=by unfold Qy.bulk at hsm;omega
 have hxs:q.x.size≤1048576:=by unfold Qy.bulk at hsm;omega
 have hn:(fstL q.p).length≤1048576:=by
  have h1:=length_firstL (usesP q.p)
  have h2:=length_uses q.p
  show (firstL (usesP q.p)).length≤_
  omega
 have hz:newZ (fstL q.p).length (fstL q.p).length (fstT q.p) ns Q=0→ns≤16∧∀ j,j < (fstL q.p).length→∃ i,idx (fun i=>(Q i).nm) (fstT q.p j) ns=some i:=fun h=>by
  unfold newZ at h
  split at h
  · rename_i hb
    refine ⟨(book_small hb.1).1,lackB_no ?_⟩
    split at h
    · cases h
    · rename_i hl;simpa using hl
  · cases h
 have hpt:∀ i,i < q.n→∀ d,Below A.heap.size A d→IsX d (q.c i):=fun i hi d hd=>by
  obtain ⟨_,_,_,_,hx⟩:=(hQ.x.later hd).part (i:=i) hi
  exact hx
 have hsz:∀ i,i < q.n→(q.c i).size≤1048576:=fun i hi=>Nat.le_trans (Nat.le_of_lt (X.size_part q.x i hi)) hxs
 refine ⟨fun d hd=>refMade_any q.p d (hQ.p.later hd) hps hok.p,fun i d hi hd=>(refTail_yes q.p i d (hQ.p.later hd) hi).mono fun e w' h=>⟨h.1,h.2.2⟩,fun d hi hd=>refTail_no q.p d (hQ.p.later hd) hi,?_,?_,?_,fun i d hi hd=>refCond14_any q (q.c i) d (hQ.later hd) hsm (hpt i hi d hd) (hsz i hi),?_,?_⟩
 · intro d hd
   refine (refVars12_any q.p d (hQ.p.later hd) hps).mono ?_
   rintro e w' ⟨v1,v2,v3,rfl,h3,hB⟩
   have o1:=h3.o1
   have o2:=h3.o2
   obtain ⟨a3,c3,e3⟩:=row_slice h3.o3
   rw [f1_cells,show (cellsS ((firstL (usesP q.p)).map (·.s))).length=(fstL q.p).length by simp [cellsS]] at o1
   rw [f2_cells,show (cellsS ((firstL (usesP q.p)).map (·.t))).length=(fstL q.p).length by simp [cellsS]] at o2
   rw [show (f3 (firstL (usesP q.p))).length=(fstL q.p).length by simp [f3]] at e3
   obtain ⟨av,cv,rfl⟩:=row_slice o1
   obtain ⟨at_,ct,rfl⟩:=row_slice o2
   exact ⟨av,cv,at_,ct,a3,c3,by rw [e3],own_txs' o1,own_txs' o2,hB⟩
 · intro av cv at_ ct d hd h1 h2
   refine (refNew_any a ns cs Q av _ cv (fstV q.p) at_ _ ct (fstT q.p) d (hS.later hd) h1 h2 hn).mono ?_
   rintro e w' (⟨h3,-,-,-,pn,h4,h5,h6⟩ | ⟨h3,h4,h5⟩)
   · exact .inl ⟨h3,pn,h4,h5,h6⟩
   · exact .inr ⟨h3,h4,h5⟩
 · intro av cv at_ ct pn i d h0 hi hd hR
   refine refCond_calls (.pointer (some ⟨pn,0,none⟩)) (KindIs (lookW q.p ns Q) (q.c i)) (q.c i) d fun d' hd'=>?_
   have hd2:=hd.trans (hd'.mono hd.size)
   exact refKindU_calls _ (lookW q.p ns Q) (q.c i) d' (hpt i hi d' hd2) (((xOk_eq q.x).1 hok.x).2.2 i hi) (hsz i hi) fun d3 hd3=>refFieldC_any pn a ns cs Q av _ cv (fstV q.p) at_ ct (fstT q.p) d3 ((hR.later hd').later hd3) hn (hz h0).1 (hz h0).2
 · intro at_ ct d h0 hd hT
   by_cases hk:q.key=⟨#[]⟩
   · rw [hk]
     refine (refKey_none a ns cs at_ _ ct d).mono ?_
     rintro e w' ⟨h1,rfl⟩
     exact ⟨0,h1,.inl ⟨hk,rfl⟩,Below.refl _ _⟩
   · refine (refKey_any a ns cs Q at_ _ ct (fstT q.p) q.key d (hS.later hd) (hz h0).1 hT hn (hz h0).2 hk).mono ?_
     rintro e w' ⟨z,h1,h2,h3⟩
     exact ⟨z,h1,.inr ⟨hk,key_same h2⟩,h3⟩
 · intro av cv at_ ct pn i d h0 hd hR
   have:=refItem14_any pn a ns cs Q av _ cv (fstV q.p) at_ ct (fstT q.p) q.p (q.it i) d hR hn (hz h0).1 (hz h0).2 (hQ.p.later hd) hps
   rw [item_same] at this
   exact this
theorem refCheck14_any (a:Option Addr) (ns cs:Nat) (Q:Nat→Sch) (q:Qy) (w:World) (hS:Schs w a ns Q) (hQ:IsQ w q) (hok:QOk q) (hsm:q.bulk≤1048576) :
 Calls Tryz.prog 9 #[.slice a ns cs,q.val] w fun e w'=>∃ z,e=.returned (.int .i64 z)∧WellR q ns Q z∧Below w.heap.size w w':=by
 obtain ⟨A,hA⟩:∃ A,w.alloc (.cells q.cells 29)=A:=⟨_,rfl⟩
 have hqb:QB A w.heap.size q:=by rw [← hA];exact QB.new w q
 have hBA:Below w.heap.size w A:=by rw [← hA];exact nwB w _
 have hQA:=hQ.later hBA
 have HC:Hid (RefC A a ns cs Q q _ _):=refC_any A a ns cs Q q (hS.later hBA) hQA hok hsm
 have CB:=refBook_any a ns cs Q A (hS.later hBA)
 have CQ:Hid (∀ d,Below A.heap.size A d→Calls Tryz.prog 25 #[q.val] d _):=fun d hd=>refCheckQ_any q d (hQA.later hd) hok hsm
 have HX:Hid (IsX A q.x):=hQA.x
 have HIT:Hid (Its A q.ia q.m q.it):=hQA.it
 have HQB:=hid hqb
 have HBA:=hid hBA
 have hqn:q.n≤9223372036854775807:=hQA.x.len
 have hqm:q.m≤9223372036854775807:=by have:=hQA.len;omega
 obtain ⟨bz,hbz⟩:∃ bz,bz=bookZ ns Q:=⟨_,rfl⟩
 obtain ⟨cz,hcz⟩:∃ cz,cz=chkQ q:=⟨_,rfl⟩
 obtain ⟨n,hn⟩:∃ n,n=(fstL q.p).length:=⟨_,rfl⟩
 obtain ⟨nz,hnz⟩:∃ nz,nz=newZ (fstL q.p).length (fstL q.p).length (fstT q.p) ns Q:=⟨_,rfl⟩
 rw [← hbz] at CB
 rw [← hcz] at CQ
 rw [← hnz,← hn] at HC
 have HBZ:=hid hbz
 have HCZ:=hid hcz
 have HNZ:=hid hnz
 clear hqb hBA hQA hS hQ hok hsm hbz hcz hn hnz
 go_enter Tryz.func9,Tryz.ntmps9
 go_wp2_with (first
  | (go_at_call 24;refine CB.mono ?_;clear CB;rintro e w1 ⟨rfl,hB1⟩;obtain ⟨⟨d0,d1,d2,d3,d4,d5⟩,d6,d7,d8,d9,d10⟩:=(HQB.out.later hB1).at0;by_cases z0:bz=0)
  | (go_at_call 25;refine (CQ.out w1 hB1).mono ?_;clear CQ;rintro e w2 ⟨rfl,hB2⟩;have hA2:=hB1.trans (hB2.mono hB1.size);clear d0 d1 d2 d3 d4 d5 d6 d7 d8 d9 d10;obtain ⟨⟨d0,d1,d2,d3,d4,d5⟩,-⟩:=(HQB.out.later hA2).at0;by_cases z1:cz=0)
  | (go_at_call 26;refine (HC.out.made w2 hA2).mono ?_;rintro e w3 ⟨mz,rfl,hmz,hB3⟩;have hA3:=hA2.trans (hB3.mono hA2.size);clear d0 d1 d2 d3 d4 d5;obtain ⟨⟨d0,d1,d2,d3,d4,d5⟩,-⟩:=(HQB.out.later hA3).at0;by_cases z2:mz=0))
 rotate_left
 · go_ret
   exact ⟨mz,rfl,.inr ⟨z2,2,by omega,az_next (az_next (fun j hj=>absurd hj (Nat.not_lt_zero _)) (show (0:Int)=if bookZ ns Q=0 then 0 else 1 by rw [← HBZ.out,z0];rfl)) (show (0:Int)=chkQ q by rw [← HCZ.out,z1]),hmz⟩,HBA.out.trans (hA3.mono HBA.out.size)⟩
 · go_ret
   exact ⟨cz,rfl,.inr ⟨z1,1,by omega,az_next (fun j hj=>absurd hj (Nat.not_lt_zero _)) (show (0:Int)=if bookZ ns Q=0 then 0 else 1 by rw [← HBZ.out,z0];rfl),HCZ.out⟩,HBA.out.trans (hA2.mono HBA.out.size)⟩
 · go_ret
   exact ⟨1,rfl,.inr ⟨by decide,0,by omega,fun j hj=>absurd hj (Nat.not_lt_zero _),show (1:Int)=if bookZ ns Q=0 then 0 else 1 by rw [← HBZ.out,if_neg z0]⟩,HBA.out.trans (hB1.mono HBA.out.size)⟩
 have HP3:Hid (∀ j,j < 3→Az q ns Q j 0):=az_next (az_next (az_next (fun j hj=>absurd hj (Nat.not_lt_zero _)) (show (0:Int)=if bookZ ns Q=0 then 0 else 1 by rw [← HBZ.out,z0];rfl)) (show (0:Int)=chkQ q by rw [← HCZ.out,z1])) (show MadeZ q.p 0 by rw [← z2];exact hmz)
 have HA3:=hid hA3
 clear hmz z0 z1 z2 hA3 hA2 hB1 hB2 hB3 HBZ HCZ d0 d1 d2 d3 d4 d5
 rcases Classical.em (∃ i,HasTail q.p i) with ⟨i,hi⟩ | hno
 refine (HC.out.tail1 i w3 hi HA3.out).mono ?_
 rintro e w4 ⟨rfl,hB4⟩
 obtain ⟨D,V,hD,hDb,hDV,hDB,hDn,hDs⟩:=boxP_put (q.p.c i) w4
 obtain ⟨⟨g0,g1,g2,g3,g4,g5⟩,f0,f1,f2,f3,f4,f5⟩:=zero_cells hDb
 have hAV:Below A.heap.size A V:=HA3.out.trans ((hB4.trans (hDB.mono hB4.size)).mono HA3.out.size)
 obtain ⟨⟨d0,d1,d2,d3,d4,d5⟩,d6,d7,d8,d9,d10⟩:=(HQB.out.later hAV).at0
 have HAV:=hid hAV
 have HI:=hid hi
 clear hAV hDn hDs hDB hDb hB4 hi
 by_cases hw:q.win=0
 · have tw:(q.win == 0)=true:=by simp [hw]
   have HW:=hid hw
   clear hw
   go_wp2_with fail
   go_ret
   exact ⟨4,rfl,.inr ⟨by decide,3,by omega,HP3.out,.inl rfl,fun _=>⟨⟨i,HI.out⟩,HW.out⟩,fun _=>rfl⟩,HBA.out.trans (HAV.out.mono HBA.out.size)⟩
 have tw:(q.win == 0)=false:=by simp [hw]
 have HP4:Hid (∀ j,j < 4→Az q ns Q j 0):=az_next HP3.out ⟨.inr rfl,fun h=>absurd h (by decide),fun h=>absurd h.2 hw⟩
 clear hw HI
 go_wp2_with fail
 rotate_left
 refine (HC.out.tail0 w3 (fun i hi=>hno ⟨i,hi⟩) HA3.out).mono ?_
 rintro e w4 ⟨rfl,hB4⟩
 obtain ⟨D,V,hD,hDb,hDV,hDB,hDn,hDs⟩:=boxP_put .nil w4
 obtain ⟨⟨g0,g1,g2,g3,g4,g5⟩,f0,f1,f2,f3,f4,f5⟩:=zero_cells hDb
 have hDV:(((((D.setCell ⟨w4.heap.size,0,none⟩ (.int .i64 0)).setCell ⟨w4.heap.size,1,none⟩ (.string ⟨#[]⟩)).setCell ⟨w4.heap.size,2,none⟩ (.string ⟨#[]⟩)).setCell ⟨w4.heap.size,3,none⟩ (.int .i64 0)).setCell ⟨w4.heap.size,4,none⟩ (.int .i64 0)).setCell ⟨w4.heap.size,5,none⟩ (.slice none 0 0)=V:=hDV
 have hAV:Below A.heap.size A V:=HA3.out.trans ((hB4.trans (hDB.mono hB4.size)).mono HA3.out.size)
 obtain ⟨⟨d0,d1,d2,d3,d4,d5⟩,d6,d7,d8,d9,d10⟩:=(HQB.out.later hAV).at0
 have HAV:=hid hAV
 have HP4:Hid (∀ j,j < 4→Az q ns Q j 0):=az_next HP3.out ⟨.inr rfl,fun h=>absurd h (by decide),fun h=>absurd h.1 hno⟩
 clear hAV hDn hDs hDB hDb hB4 hno
 go_wp2_with fail
 all_goals clear d0 d1 d2 d3 d4 d5 d6 d7 d8 d9 d10 g0 g1 g2 g3 g4 g5 f0 f1 f2 f3 f4 f5 hD hDV
 all_goals refine (HC.out.vars V HAV.out).mono ?_
 all_goals rintro e w5 ⟨av,cv,at_,ct,a3,c3,rfl,hT1,hT2,hB5⟩
 all_goals have hA5:=HAV.out.trans (hB5.mono HAV.out.size)
 all_goals have CN:=HC.out.new av cv at_ ct w5 hA5 hT1 hT2
 all_goals have HT2:=hid hT2
 all_goals have HA5:=hid hA5
 all_goals clear hA5 hT1 hT2 hB5
 all_goals go_wp2_with (go_at_call 29;refine CN.mono ?_;clear CN;rintro e w6 (⟨hz,pn,rfl,hRN,hB6⟩ | ⟨hz,rfl,hB6⟩))
 all_goals have hA6:=HA5.out.trans (hB6.mono HA5.out.size)
 all_goals first
  | (go_ret
     exact ⟨nz,rfl,.inr ⟨hz,4,by omega,HP4.out,HNZ.out⟩,HBA.out.trans (hA6.mono HBA.out.size)⟩)
  | skip
 all_goals have HZ:=hid hz
 all_goals have HP5:Hid (∀ j,j < 5→Az q ns Q j 0):=az_next HP4.out (show (0:Int)=newZ _ _ _ _ _ by rw [← HNZ.out];exact hz.symm)
 all_goals have HRN:=hid hRN
 all_goals have HT6:Hid (Txs w6 at_ n (fstT q.p)):=HT2.out.later hB6
 all_goals have HA6:=hid hA6
 all_goals clear hz hRN hA6 hB6 HP3 HP4 HA3 HAV HA5 HT2 hA
 all_goals (
  go_loopw [5,12] (fun ev iv wr=>∃ i:Nat,i≤q.n∧ev=.int .i64 0∧iv=.int .i64 i∧Hid (∀ j,j < i→CondR (lookW q.p ns Q) q.p (q.c j) 0)∧Hid (Below w6.heap.size w6 wr)) (fun _ iv _=>q.n - (intOf iv).toNat)
  case atStart=>exact ⟨0,Nat.zero_le _,rfl,rfl,fun j hj=>absurd hj (Nat.not_lt_zero _),Below.refl _ _⟩
  case round =>
   obtain ⟨i,hi,rfl,rfl,HCJ,HB7⟩:=hrel
   have hA7:=HA6.out.trans (HB7.out.mono HA6.out.size)
   obtain ⟨⟨d0,d1,d2,d3,d4,d5⟩,d6,d7,d8,d9,d10⟩:=(HQB.out.later hA7).at0
   have HA7:=hid hA7
   by_cases hin:i < q.n
   · obtain ⟨b1,o1,e1,hn1,-⟩:=(HX.out.later hA7).part (i:=i) hin
     have e1:q.a=some ⟨b1,o1,none⟩:=e1
     rw [e1] at d6
     have HND:=hid hn1
     obtain ⟨c0,c1,c2,c3,c4,c5,c6⟩:=(show Node wr b1 (o1+i * 7) (q.c i) from hn1)
     have CK:Hid (∀ d,Below w6.heap.size w6 d→_):=fun d hd=>HC.out.kind av cv at_ ct pn i d HZ.out hin (HA6.out.trans (hd.mono HA6.out.size)) (HRN.out.later hd)
     have CX:Hid (∀ d,Below A.heap.size A d→_):=fun d hd=>HC.out.cond i d hin hd
     have HIN:=hid hin
     have HE1:=hid e1
     clear hn1 hi hA7 e1
     go_wp2_with (go_at_call 30;refine (CK.out wr HB7.out).mono ?_;clear CK;rintro e w7 ⟨K,E,rfl,hK,hB8⟩;obtain ⟨kz,hkz⟩:∃ kz,kz=condZ K E:=⟨_,rfl⟩;rw [← hkz];have HKZ:=hid hkz;have HKI:=hid hK;have hA8:=HA7.out.trans (hB8.mono HA7.out.size);clear c0 c1 c2 c3 c4 c5 c6 d0 d1 d2 d3 d4 d5 d6 d7 d8 d9 d10 hkz hK;obtain ⟨⟨d0,d1,d2,d3,d4,d5⟩,d6,d7,d8,d9,d10⟩:=(HQB.out.later hA8).at0;rw [HE1.out] at d6;obtain ⟨c0,c1,c2,c3,c4,c5,c6⟩:=(show Node w7 b1 (o1+i * 7) (q.c i) from HND.out.later hB8);by_cases hk0:kz=0)
     rotate_left
     · go_ret
       exact ⟨kz,rfl,.inr ⟨hk0,5,by omega,HP5.out,.inr ⟨hk0,i,HIN.out,HCJ.out,K,E,HKI.out,by rw [← HKZ.out,if_neg hk0]⟩⟩,HBA.out.trans (hA8.mono HBA.out.size)⟩
     have CX':=CX
     unfold Qy.val Qy.cells at CX'
     rw [HE1.out] at CX'
     clear CX
     go_region_with (go_at_call 31;refine (CX'.out _ hA8.drew).mono ?_;rintro e w9 ⟨rfl,hB9⟩)
     all_goals obtain ⟨tb,htb⟩:∃ tb,tb=togB q.p (varsX (q.c i)):=⟨_,rfl⟩
     all_goals rw [← htb]
     all_goals have HTB:=hid htb
     all_goals have HK0:=hid hk0
     all_goals have h79:Below w7.heap.size w7 w9:=(Below.refl _ _).drew.trans hB9
     all_goals have HB9:Hid (Below w6.heap.size w6 w9):=HB7.out.trans ((hB8.trans (h79.mono hB8.size)).mono HB7.out.size)
     all_goals clear htb hk0 h79 hB9 hB8 hA8 CX' c0 c1 c2 c3 c4 c5 c6 d0 d1 d2 d3 d4 d5 d6 d7 d8 d9 d10
     all_goals cases tb
     all_goals go_wp2_with fail
     all_goals first
      | (go_ret
         have hA9:=HA6.out.trans (HB9.out.mono HA6.out.size)
         exact ⟨4,rfl,.inr ⟨by decide,5,by omega,HP5.out,.inr ⟨by decide,i,HIN.out,HCJ.out,K,E,HKI.out,by rw [← HKZ.out,if_pos HK0.out,← HTB.out];rfl⟩⟩,HBA.out.trans (hA9.mono HBA.out.size)⟩)
      | (go_roundw
         case rel =>
          refine ⟨i+1,HIN.out,rfl,by simp,fun j hj=>?_,HB9.out⟩
          by_cases e:j=i
          · rw [e]
            exact ⟨K,E,HKI.out,by rw [← HKZ.out,if_pos HK0.out,← HTB.out];rfl⟩
          · exact HCJ.out j (by omega)
         case measure=>have:=HIN.out;simp [intOf];omega)
   · obtain rfl:i=q.n:=by omega
     have HP6:Hid (∀ j,j < 6→Az q ns Q j 0):=az_next HP5.out (.inl ⟨rfl,HCJ.out⟩)
     have CY:=HC.out.key at_ ct wr HZ.out hA7 (HT6.out.later HB7.out)
     clear hin hi hA7 HCJ HP5
     go_wp2_with (go_at_call 32;refine CY.mono ?_;clear CY;rintro e w8 ⟨yz,rfl,hyz,hB8⟩;have hA8:=HA7.out.trans (hB8.mono HA7.out.size);by_cases hy0:yz=0)
     rotate_left
     · go_ret
       exact ⟨yz,rfl,.inr ⟨hy0,6,by omega,HP6.out,hyz⟩,HBA.out.trans (hA8.mono HBA.out.size)⟩
     have HP7:Hid (∀ j,j < 7→Az q ns Q j 0):=az_next HP6.out (by rw [hy0] at hyz;exact hyz)
     have HB8:Hid (Below w6.heap.size w6 w8):=HB7.out.trans (hB8.mono HB7.out.size)
     clear hy0 hyz hA8 HA7 HB7 hB8 HP6 d0 d1 d2 d3 d4 d5 d6 d7 d8 d9 d10
     go_loopw [5,13] (fun ev iv wr=>∃ i:Nat,i≤q.m∧ev=.int .i64 0∧iv=.int .i64 i∧Hid (∀ j,j < i→(0:Int)=itemZ (lookW q.p ns Q) q.p (q.it j))∧Hid (Below w6.heap.size w6 wr)) (fun _ iv _=>q.m - (intOf iv).toNat)
     case atStart=>exact ⟨0,Nat.zero_le _,rfl,rfl,fun j hj=>absurd hj (Nat.not_lt_zero _),HB8.out⟩
     case round =>
      obtain ⟨i,hi,rfl,rfl,HCJ,HB7⟩:=hrel
      have hA7:=HA6.out.trans (HB7.out.mono HA6.out.size)
      obtain ⟨⟨d0,d1,d2,d3,d4,d5⟩,d6,d7,d8,d9,d10⟩:=(HQB.out.later hA7).at0
      have HA7:=hid hA7
      by_cases him:i < q.m
      · obtain ⟨b1,o1,e1,c0,c1,c2,c3⟩:=(HIT.out.later hA7) i him
        rw [e1] at d10
        have CI:Hid (∀ d,Below w6.heap.size w6 d→_):=fun d hd=>HC.out.item av cv at_ ct pn i d HZ.out (HA6.out.trans (hd.mono HA6.out.size)) (HRN.out.later hd)
        have HIM:=hid him
        obtain ⟨tz,htz⟩:∃ tz,tz=itemZ (lookW q.p ns Q) q.p (q.it i):=⟨_,rfl⟩
        rw [← htz] at CI
        have HTZ:=hid htz
        clear htz hi hA7 him e1
        go_wp2_with fail
        go_region_with (go_at_call 33;refine (CI.out _ HB7.out.drew).mono ?_;rintro e w9 ⟨rfl,hB9⟩)
        all_goals have HB9:Hid (Below w6.heap.size w6 w9):=HB7.out.drew.trans (hB9.mono HB7.out.drew.size)
        all_goals clear hB9 CI c0 c1 c2 c3 d0 d1 d2 d3 d4 d5 d6 d7 d8 d9 d10
        all_goals by_cases ht0:tz=0
        all_goals first
         | (have HT0:=hid ht0
            rw [ht0]
            clear ht0)
         | skip
        all_goals go_wp2_with fail
        all_goals first
         | (go_ret
            have hA9:=HA6.out.trans (HB9.out.mono HA6.out.size)
            exact ⟨tz,rfl,.inr ⟨ht0,7,by omega,HP7.out,.inr ⟨ht0,i,HIM.out,HCJ.out,HTZ.out⟩⟩,HBA.out.trans (hA9.mono HBA.out.size)⟩)
         | (go_roundw
            case rel =>
             refine ⟨i+1,HIM.out,rfl,by simp,fun j hj=>?_,HB9.out⟩
             by_cases e:j=i
             · rw [e,← HTZ.out,HT0.out]
             · exact HCJ.out j (by omega)
            case measure=>have:=HIM.out;simp [intOf];omega)
      · obtain rfl:i=q.m:=by omega
        go_wp2_with fail
        go_ret
        exact ⟨0,rfl,.inl ⟨rfl,az_next HP7.out (.inl ⟨rfl,HCJ.out⟩)⟩,HBA.out.trans (hA7.mono HBA.out.size)⟩)
end Go.Proofs.YtkfpgkohkhhlhaaGreatDoor
