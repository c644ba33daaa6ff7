/- Texts that the last one stands on. -/
import Derived.Test.YtkfpgkohkhhlhaaGreatDoorHExprInto
import Derived.Deep.DeepCutAuto
set_option maxRecDepth 100000
set_option maxHeartbeats 8000000
namespace Go.Proofs.YtkfpgkohkhhlhaaGreatDoor
open Go.RowKit
theorem cmp_facts (s a:ByteArray):(cmpS s a < 0∧Op.bytesLess s.toList a.toList=true∧(s.toList == a.toList)=false) ∨ (cmpS s a=0∧Op.bytesLess s.toList a.toList=false∧(s.toList == a.toList)=true) ∨ (0 < cmpS s a∧Op.bytesLess s.toList a.toList=false∧(s.toList == a.toList)=false):=by
 rcases cmpS_cases s a with ⟨h,h1,h2⟩ | ⟨h,h1⟩ | ⟨h,h1,h2⟩
 · exact .inl ⟨by omega,h1,by simpa using h2⟩
 · refine .inr (.inl ⟨h,?_,by simpa using h1⟩)
   rw [h1,less_irrefl]
 · exact .inr (.inr ⟨by omega,less_not h1,by simpa using h2⟩)
def IntoAt (S:Nat→ByteArray) (s:ByteArray) (k:Nat) (o:List ByteArray) (dn:Bool):Prop :=
 (dn=false∧o=lstS S k∧∀ b ∈ lstS S k,0 < cmpS s b) ∨ (dn=true∧o=intoL s (lstS S k)∧∃ b ∈ lstS S k,¬ 0 < cmpS s b)
theorem IntoAt.len {S:Nat→ByteArray} {s:ByteArray} {k:Nat} {o:List ByteArray} {dn:Bool} (h:IntoAt S s k o dn):o.length≤k+1:=by
 have hi:∀ l:List ByteArray,(intoL s l).length≤l.length+1:=by
  intro l
  induction l with
  | nil=>simp [intoL]
  | cons a l ih =>
    simp only [intoL]
    split
    · simp
    · split
      · simp
      · simp;omega
 rcases h with ⟨-,rfl,-⟩ | ⟨-,rfl,-⟩
 · rw [lstS_len];omega
 · have:=hi (lstS S k);rw [lstS_len] at this;exact this
theorem into_any (a:Option Addr) (n cap:Nat) (S:Nat→ByteArray) (s:ByteArray) (w:World) (hT:Txs w a n S) (hn:n≤1048576) :
 Calls Tryz.prog 94 #[.slice a n cap,.string s] w fun e w'=>∃ v,e=.returned v∧w'.ownsRow w.heap.size 9 1 v (intoL s (lstS S n)).length (cellsS (intoL s (lstS S n)))∧Below w.heap.size w w':=by
 have HT:=hid hT
 clear hT
 go_enter Tryz.func94,Tryz.ntmps94
 go_wp2
 go_loopw [5,6,7] (fun u d i wr=>∃ (k:Nat) (o:List ByteArray) (dn:Bool),k≤n∧i=.int .i64 k∧d=.bool dn∧Hid (IntoAt S s k o dn)∧Hid (wr.ownsRow w.heap.size 9 1 u o.length (cellsS o))∧Below w.heap.size w wr) (fun _ _ i _=>n - (intOf i).toNat)
 case atStart=>exact ⟨0,[],false,Nat.zero_le _,rfl,rfl,.inl ⟨rfl,rfl,by simp [lstS]⟩,World.ownsRow_nil _ _ _ _,Below.refl _ _⟩
 case round =>
  obtain ⟨k,o,dn,hk,rfl,rfl,HI,HO,hB⟩:=hrel
  have hlen:=HI.out.len
  by_cases hkn:k < n
  · obtain ⟨b,off,rfl,hc⟩:=(HT.out.later hB) (by omega)
    have c:=hc k hkn
    have HK:=hid hkn
    clear hc
    obtain ⟨v1,w1,r1,o1,b1⟩:=push_str HO.out hB.size (by omega) (S k)
    have HB:Hid (Below w.heap.size w w1):=hB.trans b1
    have c':=(Txs.later (w:=w) (fun _=>HT.out (by omega)) hB) (by omega)
    clear c'
    cases dn with
    | true =>
      have HI2:Hid (IntoAt S s (k+1) (o ++ [S k]) true):=by
       rcases HI.out with ⟨h,-⟩ | ⟨-,rfl,hh⟩
       · cases h
       · exact .inr ⟨rfl,by rw [lstS,into_hit hh],by obtain ⟨q,h1,h2⟩:=hh;exact ⟨q,by simp [lstS,h1],h2⟩⟩
      have HO2:Hid (w1.ownsRow w.heap.size 9 1 v1 (o ++ [S k]).length (cellsS (o ++ [S k]))):=by show World.ownsRow _ _ _ _ _ _ _;rw [List.length_append];exact o1
      clear o1 b1 hB
      go_wp2_with (first | (at_builtin;refine wpList_append_run rfl (.tmp 34) (.tmp 39) 37 rfl _ _ _ rfl rfl r1 ?_))
      go_roundw
      case rel=>exact ⟨k+1,o ++ [S k],true,HK.out,by go_num,rfl,HI2,HO2,HB.out⟩
      case measure=>have:=HK.out;simp [intOf];omega
    | false =>
      rcases cmp_facts s (S k) with ⟨hs,s1,s2⟩ | ⟨hs,s1,s2⟩ | ⟨hs,s1,s2⟩
      · obtain ⟨v2,w2,r2,o2,b2⟩:=push_str HO.out hB.size (by omega) s
        obtain ⟨v3,w3,r3,o3,b3⟩:=push_str o2 (hB.trans b2).size (by omega) (S k)
        have HB3:Hid (Below w.heap.size w w3):=(hB.trans b2).trans b3
        have HI2:Hid (IntoAt S s (k+1) (o ++ [s] ++ [S k]) true):=by
         rcases HI.out with ⟨-,rfl,hh⟩ | ⟨h,-⟩
         · exact .inr ⟨rfl,by rw [lstS,into_less hs hh],S k,by simp [lstS],by omega⟩
         · cases h
        have HO2:Hid (w3.ownsRow w.heap.size 9 1 v3 (o ++ [s] ++ [S k]).length (cellsS (o ++ [s] ++ [S k]))):=by show World.ownsRow _ _ _ _ _ _ _;rw [List.length_append,List.length_append];exact o3
        obtain ⟨b',off',e',hc2⟩:=(HT.out.later (hB.trans b2)) (by omega)
        injection e' with e'
        injection e' with e1 e2
        subst e1 e2
        have cc:=hc2 k HK.out
        clear o1 b1 hB r1 o2 b2 o3 b3 hc2 hs
        go_wp2_with (first
         | (at_builtin;refine wpList_append_run rfl (.tmp 30) (.tmp 32) 37 rfl _ _ _ rfl rfl r2 ?_)
         | (at_builtin;refine wpList_append_run rfl (.tmp 34) (.tmp 39) 37 rfl _ _ _ rfl rfl r3 ?_))
        go_roundw
        case rel=>exact ⟨k+1,o ++ [s] ++ [S k],true,HK.out,by go_num,rfl,HI2,HO2,HB3.out⟩
        case measure=>have:=HK.out;simp [intOf];omega
      · have HI2:Hid (IntoAt S s (k+1) (o ++ [S k]) true):=by
         rcases HI.out with ⟨-,rfl,hh⟩ | ⟨h,-⟩
         · exact .inr ⟨rfl,by rw [lstS,into_same hs hh],S k,by simp [lstS],by omega⟩
         · cases h
        have HO2:Hid (w1.ownsRow w.heap.size 9 1 v1 (o ++ [S k]).length (cellsS (o ++ [S k]))):=by show World.ownsRow _ _ _ _ _ _ _;rw [List.length_append];exact o1
        clear o1 b1 hB hs
        go_wp2_with (first | (at_builtin;refine wpList_append_run rfl (.tmp 34) (.tmp 39) 37 rfl _ _ _ rfl rfl r1 ?_))
        go_roundw
        case rel=>exact ⟨k+1,o ++ [S k],true,HK.out,by go_num,rfl,HI2,HO2,HB.out⟩
        case measure=>have:=HK.out;simp [intOf];omega
      · have HI2:Hid (IntoAt S s (k+1) (o ++ [S k]) false):=by
         rcases HI.out with ⟨-,rfl,hh⟩ | ⟨h,-⟩
         · refine .inl ⟨rfl,rfl,fun b hb=>?_⟩
           rw [lstS,List.mem_append,List.mem_singleton] at hb
           rcases hb with hb | rfl
           · exact hh b hb
           · exact hs
         · cases h
        have HO2:Hid (w1.ownsRow w.heap.size 9 1 v1 (o ++ [S k]).length (cellsS (o ++ [S k]))):=by show World.ownsRow _ _ _ _ _ _ _;rw [List.length_append];exact o1
        clear o1 b1 hB hs
        go_wp2_with (first | (at_builtin;refine wpList_append_run rfl (.tmp 34) (.tmp 39) 37 rfl _ _ _ rfl rfl r1 ?_))
        go_roundw
        case rel=>exact ⟨k+1,o ++ [S k],false,HK.out,by go_num,rfl,HI2,HO2,HB.out⟩
        case measure=>have:=HK.out;simp [intOf];omega
  · obtain rfl:k=n:=by omega
    cases dn with
    | true =>
      have e:intoL s (lstS S k)=o:=by
       rcases HI.out with ⟨h,-⟩ | ⟨-,rfl,-⟩
       · cases h
       · rfl
      go_wp2
      go_ret
      exact ⟨_,rfl,by rw [e];exact HO.out,hB⟩
    | false =>
      obtain ⟨v1,w1,r1,o1,b1⟩:=push_str HO.out hB.size (by omega) s
      have HB:Hid (Below w.heap.size w w1):=hB.trans b1
      have e:intoL s (lstS S k)=o ++ [s]:=by
       rcases HI.out with ⟨-,rfl,hh⟩ | ⟨h,-⟩
       · exact into_none hh
       · cases h
      have HO2:Hid (w1.ownsRow w.heap.size 9 1 v1 (intoL s (lstS S k)).length (cellsS (intoL s (lstS S k)))):=by show World.ownsRow _ _ _ _ _ _ _;rw [e,List.length_append];exact o1
      clear o1 b1 hB e
      go_wp2_with (first | (at_builtin;refine wpList_append_run rfl (.tmp 43) (.tmp 45) 37 rfl _ _ _ rfl rfl r1 ?_))
      go_ret
      exact ⟨_,rfl,HO2.out,HB.out⟩
theorem acc_bound (x:X) (i k:Nat) (hi:i < x.n) (hk:k≤(varsX (x.c i)).length) (hsm:x.size≤1048576):(intoAll (accN (if x.k=2 then [x.s] else []) (fun i=>varsX (x.c i)) i) ((varsX (x.c i)).take k)).length≤1048576:=by
 have h1:=intoAll_len ((varsX (x.c i)).take k) (accN (if x.k=2 then [x.s] else []) (fun i=>varsX (x.c i)) i)
 have h2:=accN_len (if x.k=2 then [x.s] else []) (fun i=>varsX (x.c i)) (fun i=>(x.c i).size) i fun j _=>vars_len _
 have h3:=vars_len (x.c i)
 have h4:=sumN_part (f:=fun i=>(x.c i).size) hi
 have h5:=x.size_eq
 have h6:(if x.k=2 then [x.s] else ([]:List ByteArray)).length≤1:=by split <;> simp
 rw [List.length_take] at h1
 omega
theorem refVars_any:∀ (x:X) (w:World),IsX w x→x.size≤1048576→Calls Tryz.prog 44 #[x.val] w fun e w'=>∃ v,e=.returned v∧w'.ownsRow w.heap.size 9 1 v (varsX x).length (cellsS (varsX x))∧Below w.heap.size w w':=by
 refine X.ind fun x ih w hX hsm=>?_
 obtain ⟨l0,hl0⟩:∃ l0,l0=(if x.k=2 then [x.s] else ([]:List ByteArray)):=⟨_,rfl⟩
 have HR:Hid (varsX x=accN l0 (fun i=>varsX (x.c i)) x.n):=by show varsX x=_;rw [varsX_eq,hl0]
 have HBD:Hid (∀ i k,i < x.n→k≤(varsX (x.c i)).length→(intoAll (accN l0 (fun i=>varsX (x.c i)) i) ((varsX (x.c i)).take k)).length≤1048576):=fun i k hi hk=>by rw [hl0];exact acc_bound x i k hi hk hsm
 have HV:Hid (∀ i,i < x.n→(varsX (x.c i)).length≤1048576):=fun i hi=>by have:=vars_len (x.c i);have:=x.size_part i hi;omega
 have HI:Hid (∀ i,i < x.n→∀ w,IsX w (x.c i)→Calls Tryz.prog 44 #[(x.c i).val] w fun e w'=>∃ v,e=.returned v∧w'.ownsRow w.heap.size 9 1 v (varsX (x.c i)).length (cellsS (varsX (x.c i)))∧Below w.heap.size w w'):=fun i hi w h=>ih i hi w h (by have:=x.size_part i hi;omega)
 have HX:=hid hX
 have hlen:=hX.len
 obtain ⟨A,hA⟩:∃ A,w.alloc (.cells x.cells 54)=A:=⟨_,rfl⟩
 have HB:Hid (Below w.heap.size w A):=by show Below _ _ _;rw [← hA];exact nwB w _
 have HN:Hid (Node A w.heap.size 0 x):=by show Node _ _ _ _;rw [← hA];exact node_new w _ x
 have hs:A.heap.size=w.heap.size+1:=by rw [← hA];simp
 obtain ⟨a0,-,-,-,a4,-,-⟩:=HN.out.at0
 clear ih hX hsm
 by_cases hk:x.k=2
 · have hk':(x.k == 2)=true:=by simpa using hk
   obtain ⟨v1,A1,r1,o1,b1⟩:=push_str (n:=0) (l:=[]) (World.ownsRow_nil A A.heap.size 9 1) (Nat.le_refl _) (by omega) x.s
   have HO1:Hid (A1.ownsRow A.heap.size 9 1 v1 l0.length (cellsS l0)):=by show World.ownsRow _ _ _ _ _ _ _;rw [hl0,if_pos hk];exact o1
   rw [hs] at r1
   clear hk hl0 o1
   go_enter Tryz.func44,Tryz.ntmps44
   go_wp2_with (first | (at_builtin;refine wpList_append_run rfl (.tmp 10) (.tmp 13) 37 rfl _ _ _ rfl rfl r1 ?_))
   go_loopw [3,4] (fun u v wr=>∃ i:Nat,i≤x.n∧v=.int .i64 i∧Hid (wr.ownsRow A.heap.size 9 1 u (accN l0 (fun i=>varsX (x.c i)) i).length (cellsS (accN l0 (fun i=>varsX (x.c i)) i)))∧Below A.heap.size A wr) (fun _ v _=>x.n - (intOf v).toNat)
   case atStart=>exact ⟨0,Nat.zero_le _,rfl,HO1,b1⟩
   case round =>
    obtain ⟨i,hi,rfl,HO,hB⟩:=hrel
    obtain ⟨-,-,-,-,-,-,c6⟩:=(node_on HN.out (hB.mono (by omega))).at0
    have hw:=HB.out.trans (hB.mono (by omega))
    by_cases hin:i < x.n
    · obtain ⟨b,o,ea,hn,hx⟩:=(HX.out.later hw).part hin
      rw [ea] at c6
      obtain ⟨d0,d1,d2,d3,d4,d5,d6⟩:=hn
      have hc:=HI.out i hin wr hx
      have HK:=hid hin
      have HL:Hid (varsX (x.c i)=varsX (x.c i)):=rfl
      obtain ⟨L,hL⟩:∃ L,L=varsX (x.c i):=⟨_,rfl⟩
      obtain ⟨acc,hacc⟩:∃ acc,acc=accN l0 (fun i=>varsX (x.c i)) i:=⟨_,rfl⟩
      have HS:Hid (accN l0 (fun i=>varsX (x.c i)) (i+1)=intoAll acc L):=by show accN _ _ (i+1)=_;rw [hacc,hL];rfl
      have HD:Hid (∀ k,k≤L.length→(intoAll acc (L.take k)).length≤1048576):=fun k hk=>by rw [hacc,hL] at *;exact HBD.out i k hin hk
      have hLn:L.length≤1048576:=by rw [hL];exact HV.out i hin
      rw [← hacc] at HO
      rw [← hL] at hc
      obtain ⟨m,hm⟩:∃ m,m=L.length:=⟨_,rfl⟩
      have HM:=hid hm
      rw [← hm] at hc hLn
      clear hx hw ea HL hL hacc hm
      go_wp2_with (go_at_call 44;refine hc.mono ?_;rintro e w2 ⟨v2,rfl,ho2,hB2⟩;obtain ⟨a2,cap2,rfl,hT2,-,-⟩:=own_txs ho2;have HT2:=hid hT2;have HO2:Hid (w2.ownsRow A.heap.size 9 1 u3 acc.length (cellsS acc)):=own_laterS HO.out hB2;clear hT2 ho2)
      have hB3:=hB.trans (hB2.mono hB.size)
      go_loopw [3,6] (fun u v wz=>∃ k q:Nat,k≤m∧v=.int .i64 k∧Hid (q=(intoAll acc (L.take k)).length)∧Hid (wz.ownsRow A.heap.size 9 1 u q (cellsS (intoAll acc (L.take k))))∧Below w2.heap.size w2 wz) (fun _ v _=>m - (intOf v).toNat)
      case atStart=>exact ⟨0,_,Nat.zero_le _,rfl,rfl,HO2,Below.refl _ _⟩
      case round =>
       obtain ⟨k,q,hk,rfl,Hq,HQ,hBz⟩:=hrel
       obtain ⟨a3,cap3,rfl,hT3,hl3,-⟩:=own_txs HQ.out
       have hLk:k≤L.length:=by rw [← HM.out];exact hk
       by_cases hkn:k < m
       · obtain ⟨b2,o2,rfl,hc2⟩:=(HT2.out.later hBz) (by omega)
         have cc:=hc2 k hkn
         have HKk:=hid hkn
         have hin:=into_any a3 q cap3 _ (atS L k) wr hT3 (by rw [Hq.out];exact HD.out k hLk)
         have e1:lstS (atS (intoAll acc (L.take k))) q=intoAll acc (L.take k):=by rw [Hq.out];exact lstS_all _
         rw [e1] at hin
         have e2:intoL (atS L k) (intoAll acc (L.take k))=intoAll acc (L.take (k+1)):=by rw [take_snoc L k (by rw [← HM.out];exact hkn),intoAll_snoc]
         rw [e2] at hin
         obtain ⟨M2,hM2⟩:∃ M2,M2=intoAll acc (L.take (k+1)):=⟨_,rfl⟩
         rw [← hM2] at hin
         have HM2:=hid hM2
         obtain ⟨sk,hsk⟩:∃ sk,sk=atS L k:=⟨_,rfl⟩
         rw [← hsk] at hin cc
         clear hc2 e1 e2 hT3 hM2 hsk hl3 hLk
         go_wp2_with (go_at_call 94;refine hin.mono ?_;rintro e w4 ⟨v4,rfl,ho4,hB4⟩)
         go_roundw
         case rel=>exact ⟨k+1,_,HKk.out,by go_num,rfl,by rw [← HM2.out];exact own_low ho4 (Nat.le_trans hB3.size hBz.size),hBz.trans (hB4.mono hBz.size)⟩
         case measure=>have:=HKk.out;simp [intOf];omega
       · obtain rfl:k=m:=by omega
         have HQ':Hid (wr.ownsRow A.heap.size 9 1 (.slice a3 q cap3) (accN l0 (fun i=>varsX (x.c i)) (i+1)).length (cellsS (accN l0 (fun i=>varsX (x.c i)) (i+1)))):=by
          show World.ownsRow _ _ _ _ _ _ _
          rw [HS.out]
          have h1:=HQ.out
          have h2:=Hq.out
          rw [HM.out,List.take_length] at h1 h2
          rw [← h2]
          exact h1
         clear hT3 hl3 hLk
         go_wp2
         go_roundw
         case rel=>exact ⟨i+1,HK.out,by go_num,HQ',hB3.trans (hBz.mono hB3.size)⟩
         case measure=>have:=HK.out;simp [intOf];omega
    · obtain rfl:i=x.n:=by omega
      go_wp2
      go_ret
      exact ⟨_,rfl,by rw [HR.out];exact own_low HO.out (by omega),hw⟩
 · have hk':(x.k == 2)=false:=by simpa using hk
   have HO1:Hid (A.ownsRow A.heap.size 9 1 (.slice none 0 0) l0.length (cellsS l0)):=by show World.ownsRow _ _ _ _ _ _ _;rw [hl0,if_neg hk];exact World.ownsRow_nil _ _ _ _
   clear hk hl0
   go_enter Tryz.func44,Tryz.ntmps44
   go_wp2_with fail
   go_loopw [3,4] (fun u v wr=>∃ i:Nat,i≤x.n∧v=.int .i64 i∧Hid (wr.ownsRow A.heap.size 9 1 u (accN l0 (fun i=>varsX (x.c i)) i).length (cellsS (accN l0 (fun i=>varsX (x.c i)) i)))∧Below A.heap.size A wr) (fun _ v _=>x.n - (intOf v).toNat)
   case atStart=>exact ⟨0,Nat.zero_le _,rfl,HO1,Below.refl _ _⟩
   case round =>
    obtain ⟨i,hi,rfl,HO,hB⟩:=hrel
    obtain ⟨-,-,-,-,-,-,c6⟩:=(node_on HN.out (hB.mono (by omega))).at0
    have hw:=HB.out.trans (hB.mono (by omega))
    by_cases hin:i < x.n
    · obtain ⟨b,o,ea,hn,hx⟩:=(HX.out.later hw).part hin
      rw [ea] at c6
      obtain ⟨d0,d1,d2,d3,d4,d5,d6⟩:=hn
      have hc:=HI.out i hin wr hx
      have HK:=hid hin
      have HL:Hid (varsX (x.c i)=varsX (x.c i)):=rfl
      obtain ⟨L,hL⟩:∃ L,L=varsX (x.c i):=⟨_,rfl⟩
      obtain ⟨acc,hacc⟩:∃ acc,acc=accN l0 (fun i=>varsX (x.c i)) i:=⟨_,rfl⟩
      have HS:Hid (accN l0 (fun i=>varsX (x.c i)) (i+1)=intoAll acc L):=by show accN _ _ (i+1)=_;rw [hacc,hL];rfl
      have HD:Hid (∀ k,k≤L.length→(intoAll acc (L.take k)).length≤1048576):=fun k hk=>by rw [hacc,hL] at *;exact HBD.out i k hin hk
      have hLn:L.length≤1048576:=by rw [hL];exact HV.out i hin
      rw [← hacc] at HO
      rw [← hL] at hc
      obtain ⟨m,hm⟩:∃ m,m=L.length:=⟨_,rfl⟩
      have HM:=hid hm
      rw [← hm] at hc hLn
      clear hx hw ea HL hL hacc hm
      go_wp2_with (go_at_call 44;refine hc.mono ?_;rintro e w2 ⟨v2,rfl,ho2,hB2⟩;obtain ⟨a2,cap2,rfl,hT2,-,-⟩:=own_txs ho2;have HT2:=hid hT2;have HO2:Hid (w2.ownsRow A.heap.size 9 1 u3 acc.length (cellsS acc)):=own_laterS HO.out hB2;clear hT2 ho2)
      have hB3:=hB.trans (hB2.mono hB.size)
      go_loopw [3,6] (fun u v wz=>∃ k q:Nat,k≤m∧v=.int .i64 k∧Hid (q=(intoAll acc (L.take k)).length)∧Hid (wz.ownsRow A.heap.size 9 1 u q (cellsS (intoAll acc (L.take k))))∧Below w2.heap.size w2 wz) (fun _ v _=>m - (intOf v).toNat)
      case atStart=>exact ⟨0,_,Nat.zero_le _,rfl,rfl,HO2,Below.refl _ _⟩
      case round =>
       obtain ⟨k,q,hk,rfl,Hq,HQ,hBz⟩:=hrel
       obtain ⟨a3,cap3,rfl,hT3,hl3,-⟩:=own_txs HQ.out
       have hLk:k≤L.length:=by rw [← HM.out];exact hk
       by_cases hkn:k < m
       · obtain ⟨b2,o2,rfl,hc2⟩:=(HT2.out.later hBz) (by omega)
         have cc:=hc2 k hkn
         have HKk:=hid hkn
         have hin:=into_any a3 q cap3 _ (atS L k) wr hT3 (by rw [Hq.out];exact HD.out k hLk)
         have e1:lstS (atS (intoAll acc (L.take k))) q=intoAll acc (L.take k):=by rw [Hq.out];exact lstS_all _
         rw [e1] at hin
         have e2:intoL (atS L k) (intoAll acc (L.take k))=intoAll acc (L.take (k+1)):=by rw [take_snoc L k (by rw [← HM.out];exact hkn),intoAll_snoc]
         rw [e2] at hin
         obtain ⟨M2,hM2⟩:∃ M2,M2=intoAll acc (L.take (k+1)):=⟨_,rfl⟩
         rw [← hM2] at hin
         have HM2:=hid hM2
         obtain ⟨sk,hsk⟩:∃ sk,sk=atS L k:=⟨_,rfl⟩
         rw [← hsk] at hin cc
         clear hc2 e1 e2 hT3 hM2 hsk hl3 hLk
         go_wp2_with (go_at_call 94;refine hin.mono ?_;rintro e w4 ⟨v4,rfl,ho4,hB4⟩)
         go_roundw
         case rel=>exact ⟨k+1,_,HKk.out,by go_num,rfl,by rw [← HM2.out];exact own_low ho4 (Nat.le_trans hB3.size hBz.size),hBz.trans (hB4.mono hBz.size)⟩
         case measure=>have:=HKk.out;simp [intOf];omega
       · obtain rfl:k=m:=by omega
         have HQ':Hid (wr.ownsRow A.heap.size 9 1 (.slice a3 q cap3) (accN l0 (fun i=>varsX (x.c i)) (i+1)).length (cellsS (accN l0 (fun i=>varsX (x.c i)) (i+1)))):=by
          show World.ownsRow _ _ _ _ _ _ _
          rw [HS.out]
          have h1:=HQ.out
          have h2:=Hq.out
          rw [HM.out,List.take_length] at h1 h2
          rw [← h2]
          exact h1
         clear hT3 hl3 hLk
         go_wp2
         go_roundw
         case rel=>exact ⟨i+1,HK.out,by go_num,HQ',hB3.trans (hBz.mono hB3.size)⟩
         case measure=>have:=HK.out;simp [intOf];omega
    · obtain rfl:i=x.n:=by omega
      go_wp2
      go_ret
      exact ⟨_,rfl,by rw [HR.out];exact own_low HO.out (by omega),hw⟩
end Go.Proofs.YtkfpgkohkhhlhaaGreatDoor
