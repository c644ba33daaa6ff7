/- Texts that the last one stands on. -/
import Derived.Test.YtkfpgkohkhhlhaaGreatDoorHPatRows3
set_option maxRecDepth 100000
set_option maxHeartbeats 8000000
namespace Go.Proofs.YtkfpgkohkhhlhaaGreatDoor
open Go.RowKit Go.Shelf
theorem wpOp_append_run12 {P:Program} {w w':World} {o:Oper} {a:Act} {K:Act→World→Prop} {Q:Exit→Act→World→Prop} (s x:Operand) (t:TypeId)
 (hop:o.op=Op.call { callee:=Callee.builtin Builtin.append,args:=#[s,x],argTypes:=#[t,t] }) (v y v':Value) (hs:a.eval s=v) (hx:a.eval x=y)
 (hrun:(Builtin.append_ #[t,t] o.type #[v,y]).run P w=.ok v' w') (hK:K (a.put o.dst v') w'):Oper.wp P o a w K Q:=by
 unfold Oper.wp
 simp [execOp,hop,resolve,invoke,builtin,hs,hx,hrun,Result.andThen]
 exact hK
theorem own_low12 {w:World} {B B' e k n:Nat} {v:Value} {xs:List Value} (h:w.ownsRow B e k v n xs) (hB:B'≤B):w.ownsRow B' e k v n xs:=by
 refine ⟨h.1,?_⟩
 rcases h.2 with h2 | ⟨g,cap,cur,e1,hg,h3⟩
 · exact .inl h2
 · exact .inr ⟨g,cap,cur,e1,Nat.le_trans hB hg,h3⟩
def vs1 (L:List Pt) (k:Nat):List Value:=(L.take k).map fun y=>.string y.s
def vs2 (L:List Pt) (k:Nat):List Value:=(L.take k).map fun y=>.string y.t
def vs3 (L:List Pt) (k:Nat):List Value:=(L.take k).map fun y=>.int .i64 y.k
theorem take_next {α:Type} (f:Pt→α) {L:List Pt} {k:Nat} {y:Pt} (h:L[k]? = some y):(L.take (k+1)).map f=(L.take k).map f ++ [f y]:=by
 rw [List.take_add_one,h,List.map_append];rfl
theorem take_len {α:Type} (f:Pt→α) {L:List Pt} {k:Nat} (h:k≤L.length):((L.take k).map f).length=k:=by simp;omega
theorem vars12_any (x:Pt) (w:World) (hX:IsP w x) (hsm:x.size≤1048576) (hok:POk x) :
 Calls Tryz.prog 17 #[x.val] w fun e w'=>∃ v1 v2 v3,e=.returned (.tuple #[v1,v2,v3])∧R3 w.heap.size w' v1 v2 v3 (vs1 (firstL (usesP x)) (firstL (usesP x)).length) (vs2 (firstL (usesP x)) (firstL (usesP x)).length) (vs3 (firstL (usesP x)) (firstL (usesP x)).length)∧Below w.heap.size w w':=by
 obtain ⟨A,hA,hB,hs,hn⟩:=boxP_one x w
 have HBA:=hid hB
 have hf:=firsts12_any x w.heap.size 0 A hn (hX.later hB) hsm hok
 have hll:(firstL (usesP x)).length≤1048576:=by have:=length_firstL (usesP x);have:=length_uses x;omega
 have HOK:Hid (∀ y ∈ firstL (usesP x),y.s.size≤maxLen):=fun y hy=>(uses_ok hok y (mem_firstL hy)).1
 generalize firstL (usesP x)=L at hf hll HOK ⊢
 obtain ⟨X1,hX1⟩:∃ f,f=vs1 L:=⟨_,rfl⟩
 obtain ⟨X2,hX2⟩:∃ f,f=vs2 L:=⟨_,rfl⟩
 obtain ⟨X3,hX3⟩:∃ f,f=vs3 L:=⟨_,rfl⟩
 obtain ⟨N,hN⟩:∃ N,N=L.length:=⟨_,rfl⟩
 rw [← hX1,← hX2,← hX3,← hN]
 have HX:Hid (X1=vs1 L∧X2=vs2 L∧X3=vs3 L):=⟨hX1,hX2,hX3⟩
 have HML:=hid hN
 have hNb:N≤1048576:=by omega
 clear hB hn hX hsm hok hX1 hX2 hX3 hN hll
 go_enter Tryz.func17,Tryz.ntmps17
 go_wp2_with (go_at_call 59;refine hf.mono ?_;clear hf;rintro e w1 ⟨a,m,cap,P,D,q,M,rfl,hM,hrow,hfa,-,-,hB1⟩;have HRW:=hid hrow;have HFA:=hid hfa;have HB1:=hid hB1;obtain rfl:m=N:=(by obtain ⟨a',cap',e⟩:=own_slice hrow;injection e with _ e _;rw [e,hfa.1];exact HML.out.symm);clear hrow hfa hB1)
 go_loopw [5,6,7,18] (fun u5 u6 u7 u18 wr=>∃ k:Nat,k≤m∧u18=.int .i64 k∧R3 w1.heap.size wr u5 u6 u7 (X1 k) (X2 k) (X3 k)∧Below w1.heap.size w1 wr) (fun _ _ _ u18 _=>m - (intOf u18).toNat)
 case atStart=>obtain ⟨rfl,rfl,rfl⟩:=HX.out;exact ⟨0,Nat.zero_le _,rfl,R3.nil _ _,Below.refl _ _⟩
 case round =>
  obtain ⟨k,hk,rfl,hR,hB⟩:=hrel
  by_cases hkn:k < m
  · have hkL:k < L.length:=by rw [← HML.out];exact hkn
    obtain ⟨y,hy⟩:∃ y,L[k]? = some y:=⟨L[k]'hkL,List.getElem?_eq_getElem _⟩
    obtain ⟨⟨b,o⟩,hp⟩:∃ p,P[k]? = some p:=⟨P[k]'(by rw [HFA.out.1];exact hkL),List.getElem?_eq_getElem _⟩
    obtain ⟨hb,hn⟩:=HFA.out.2 k _ y hp hy
    have HN:Hid (NodeP w1 b o y):=hn.later HB1.out
    obtain ⟨-,g,rfl,-,-,hgc⟩:=row_ptr HRW.out hp
    have cg:=cell_later hgc hB
    have HK:=hid hkn
    have HR:=hid hR
    have HB:=hid hB
    obtain ⟨q1,q2,q3⟩:=HX.out
    have E1:Hid (X1 (k+1)=X1 k ++ [.string y.s]):=by rw [q1];exact take_next _ hy
    have E2:Hid (X2 (k+1)=X2 k ++ [.string y.t]):=by rw [q2];exact take_next _ hy
    have E3:Hid (X3 (k+1)=X3 k ++ [.int .i64 y.k]):=by rw [q3];exact take_next _ hy
    have HL1:Hid ((X1 k).length=k):=by rw [q1];exact take_len _ (by omega)
    have HL2:Hid ((X2 k).length=k):=by rw [q2];exact take_len _ (by omega)
    have HL3:Hid ((X3 k).length=k):=by rw [q3];exact take_len _ (by omega)
    clear q1 q2 q3 hR hB hp hy hn hb hgc hkL HX HML HFA HRW
    go_upto_region 7 with (fail)
    clear cg hk
    refine wp_region_noPanic ?_
    refine wp_region_held_drew (S:=fun w'=>Below w1.heap.size w1 w') (by kernel_rfl) (HB.out.drew) (fun hHeld=>?_)
    obtain ⟨c,hc⟩:∃ c,c=wr.drew:=⟨_,rfl⟩
    have hR:R3 w1.heap.size c u5 u6 u7 (X1 k) (X2 k) (X3 k):=by rw [hc];exact HR.out.drew
    rw [← hc] at hHeld ⊢
    clear hc
    refine tk 0 ?_
    refine tk 1 ?_
    refine tk 2 ?_
    refine tk 3 ?_
    refine tk 4 ?_ (hy:=fun w9 hSw=>by obtain ⟨d0,d1,d2,d3,d4,d5⟩:=HN.out.later hSw;go_simp;(try with_reducible rfl))
    refine tk 7 ?_
    refine tk 8 ?_
    refine tk 9 ?_
    refine tk 10 ?_
    refine tk 11 ?_ (hy:=fun w9 hSw=>by obtain ⟨d0,d1,d2,d3,d4,d5⟩:=HN.out.later hSw;go_simp;(try with_reducible rfl))
    refine tk 14 ?_
    refine tk 15 ?_
    refine tk 16 ?_
    refine tk 17 ?_
    refine tk 18 ?_ (hy:=fun w9 hSw=>by obtain ⟨d0,d1,d2,d3,d4,d5⟩:=HN.out.later hSw;go_simp;(try with_reducible rfl))
    refine wpAnyH_ready (rs:=[5,12,19]) (by kernel_rfl) (by simp) ?_
    refine AllReadyH.cons (o:=⟨some 27,.buildSlice 37 1 #[(0,.tmp 26)],37,_,_,_⟩) rfl (fun K hK=>?_) ?_
    · go_simp
      refine hK.out _ _ (hHeld.alloc hHeld.size _) (fun hHeld=>?_)
      clear hK K
      try simp only [Act.put,s_put,s_0,s_1]
      obtain ⟨c1,hc1⟩:∃ z,c.alloc (.cells #[.string y.s] 9)=z:=⟨_,rfl⟩
      have hR1:R3 w1.heap.size c1 u5 u6 u7 (X1 k) (X2 k) (X3 k):=by rw [← hc1];exact hR.alloc _
      have hb11:Bx c1 u5 u6 u7 c.heap.size 9 (.string y.s):=by rw [← hc1];exact Bx.new hR _ _
      rw [hc1] at hHeld ⊢
      clear hc1
      refine wpAnyH_ready (rs:=[6,12,19]) (by kernel_rfl) (by simp) ?_
      refine AllReadyH.cons (o:=⟨some 28,.call { callee:=.builtin Builtin.append,args:=#[.tmp 22,.tmp 27],argTypes:=#[37,37] },37,_,_,_⟩) rfl (fun K hK=>?_) ?_
      · obtain ⟨z2,c2,hrun2,hR2,hk2,hB2⟩:=hR1.app1 hHeld.size (by rw [HL1.out];have:=HK.out;omega) hb11
        rw [if_pos (by rfl)]
        refine wpOp_append_run12 (.tmp 22) (.tmp 27) 37 rfl _ _ _ rfl rfl hrun2 ?_
        refine hK.out _ _ (hHeld.trans hB2) (fun hHeld=>?_)
        clear hK K
        try simp only [Act.put,s_put,s_0,s_1]
        clear hrun2 hk2 hB2
        refine wpAnyH_ready (rs:=[12,19]) (by kernel_rfl) (by simp) ?_
        refine AllReadyH.cons (o:=⟨some 34,.buildSlice 37 1 #[(0,.tmp 33)],37,_,_,_⟩) rfl (fun K hK=>?_) ?_
        · go_simp
          refine hK.out _ _ (hHeld.alloc hHeld.size _) (fun hHeld=>?_)
          clear hK K
          try simp only [Act.put,s_put,s_0,s_1]
          obtain ⟨c3,hc3⟩:∃ z,c2.alloc (.cells #[.string y.t] 9)=z:=⟨_,rfl⟩
          have hR3:R3 w1.heap.size c3 z2 u6 u7 (X1 k ++ [.string y.s]) (X2 k) (X3 k):=by rw [← hc3];exact hR2.alloc _
          have hb32:Bx c3 z2 u6 u7 c2.heap.size 9 (.string y.t):=by rw [← hc3];exact Bx.new hR2 _ _
          rw [hc3] at hHeld ⊢
          clear hc3
          refine wpAnyH_ready (rs:=[13,19]) (by kernel_rfl) (by simp) ?_
          refine AllReadyH.cons (o:=⟨some 35,.call { callee:=.builtin Builtin.append,args:=#[.tmp 29,.tmp 34],argTypes:=#[37,37] },37,_,_,_⟩) rfl (fun K hK=>?_) ?_
          · obtain ⟨z4,c4,hrun4,hR4,hk4,hB4⟩:=hR3.app2 hHeld.size (by rw [HL2.out];have:=HK.out;omega) hb32
            rw [if_pos (by rfl)]
            refine wpOp_append_run12 (.tmp 29) (.tmp 34) 37 rfl _ _ _ rfl rfl hrun4 ?_
            refine hK.out _ _ (hHeld.trans hB4) (fun hHeld=>?_)
            clear hK K
            try simp only [Act.put,s_put,s_0,s_1]
            clear hrun4 hk4 hB4
            refine rd 19 fun K hK=>?_
            go_simp
            refine hK.out _ _ (hHeld.alloc hHeld.size _) (fun hHeld=>?_)
            clear hK K
            try simp only [Act.put,s_put,s_0,s_1]
            obtain ⟨c5,hc5⟩:∃ z,c4.alloc (.cells #[.int .i64 y.k] 3)=z:=⟨_,rfl⟩
            have hR5:R3 w1.heap.size c5 z2 z4 u7 (X1 k ++ [.string y.s]) (X2 k ++ [.string y.t]) (X3 k):=by rw [← hc5];exact hR4.alloc _
            have hb53:Bx c5 z2 z4 u7 c4.heap.size 3 (.int .i64 y.k):=by rw [← hc5];exact Bx.new hR4 _ _
            rw [hc5] at hHeld ⊢
            clear hc5
            refine rd 20 fun K hK=>?_
            obtain ⟨z6,c6,hrun6,hR6,hk6,hB6⟩:=hR5.app3 hHeld.size (by rw [HL3.out];have:=HK.out;omega) hb53
            rw [if_pos (by rfl)]
            refine wpOp_append_run12 (.tmp 36) (.tmp 41) 39 rfl _ _ _ rfl rfl hrun6 ?_
            refine hK.out _ _ (hHeld.trans hB6) (fun hHeld=>?_)
            clear hK K
            try simp only [Act.put,s_put,s_0,s_1]
            clear hrun6 hk6 hB6
            refine tk 21 ?_
            refine tk 22 ?_
            refine tk 23 ?_
            refine dn ?_
            go_wp2
            go_roundw
            case rel=>exact ⟨k+1,HK.out,by go_num,by rw [E1.out,E2.out,E3.out];exact hR6,hHeld⟩
            case measure=>have:=HK.out;simp [intOf];omega
          refine AllReadyH.cons (o:=⟨some 41,.buildSlice 39 1 #[(0,.tmp 40)],39,_,_,_⟩) rfl (fun K hK=>?_) AllReadyH.nil
          go_simp
          refine hK.out _ _ (hHeld.alloc hHeld.size _) (fun hHeld=>?_)
          clear hK K
          try simp only [Act.put,s_put,s_0,s_1]
          obtain ⟨c10,hc10⟩:∃ z,c3.alloc (.cells #[.int .i64 y.k] 3)=z:=⟨_,rfl⟩
          have hR10:R3 w1.heap.size c10 z2 u6 u7 (X1 k ++ [.string y.s]) (X2 k) (X3 k):=by rw [← hc10];exact hR3.alloc _
          have hb103:Bx c10 z2 u6 u7 c3.heap.size 3 (.int .i64 y.k):=by rw [← hc10];exact Bx.new hR3 _ _
          have hb102:Bx c10 z2 u6 u7 c2.heap.size 9 (.string y.t):=by rw [← hc10];exact hb32.alloc _
          rw [hc10] at hHeld ⊢
          clear hc10
          refine rd 13 fun K hK=>?_
          obtain ⟨z11,c11,hrun11,hR11,hk11,hB11⟩:=hR10.app2 hHeld.size (by rw [HL2.out];have:=HK.out;omega) hb102
          rw [if_pos (by rfl)]
          refine wpOp_append_run12 (.tmp 29) (.tmp 34) 37 rfl _ _ _ rfl rfl hrun11 ?_
          refine hK.out _ _ (hHeld.trans hB11) (fun hHeld=>?_)
          clear hK K
          try simp only [Act.put,s_put,s_0,s_1]
          have hb113:=hk11 _ _ _ hb103
          clear hrun11 hk11 hB11
          refine rd 20 fun K hK=>?_
          obtain ⟨z12,c12,hrun12,hR12,hk12,hB12⟩:=hR11.app3 hHeld.size (by rw [HL3.out];have:=HK.out;omega) hb113
          rw [if_pos (by rfl)]
          refine wpOp_append_run12 (.tmp 36) (.tmp 41) 39 rfl _ _ _ rfl rfl hrun12 ?_
          refine hK.out _ _ (hHeld.trans hB12) (fun hHeld=>?_)
          clear hK K
          try simp only [Act.put,s_put,s_0,s_1]
          clear hrun12 hk12 hB12
          refine tk 21 ?_
          refine tk 22 ?_
          refine tk 23 ?_
          refine dn ?_
          go_wp2
          go_roundw
          case rel=>exact ⟨k+1,HK.out,by go_num,by rw [E1.out,E2.out,E3.out];exact hR12,hHeld⟩
          case measure=>have:=HK.out;simp [intOf];omega
        refine AllReadyH.cons (o:=⟨some 41,.buildSlice 39 1 #[(0,.tmp 40)],39,_,_,_⟩) rfl (fun K hK=>?_) AllReadyH.nil
        go_simp
        refine hK.out _ _ (hHeld.alloc hHeld.size _) (fun hHeld=>?_)
        clear hK K
        try simp only [Act.put,s_put,s_0,s_1]
        obtain ⟨c16,hc16⟩:∃ z,c2.alloc (.cells #[.int .i64 y.k] 3)=z:=⟨_,rfl⟩
        have hR16:R3 w1.heap.size c16 z2 u6 u7 (X1 k ++ [.string y.s]) (X2 k) (X3 k):=by rw [← hc16];exact hR2.alloc _
        have hb163:Bx c16 z2 u6 u7 c2.heap.size 3 (.int .i64 y.k):=by rw [← hc16];exact Bx.new hR2 _ _
        rw [hc16] at hHeld ⊢
        clear hc16
        refine rd 12 fun K hK=>?_
        go_simp
        refine hK.out _ _ (hHeld.alloc hHeld.size _) (fun hHeld=>?_)
        clear hK K
        try simp only [Act.put,s_put,s_0,s_1]
        obtain ⟨c17,hc17⟩:∃ z,c16.alloc (.cells #[.string y.t] 9)=z:=⟨_,rfl⟩
        have hR17:R3 w1.heap.size c17 z2 u6 u7 (X1 k ++ [.string y.s]) (X2 k) (X3 k):=by rw [← hc17];exact hR16.alloc _
        have hb172:Bx c17 z2 u6 u7 c16.heap.size 9 (.string y.t):=by rw [← hc17];exact Bx.new hR16 _ _
        have hb173:Bx c17 z2 u6 u7 c2.heap.size 3 (.int .i64 y.k):=by rw [← hc17];exact hb163.alloc _
        rw [hc17] at hHeld ⊢
        clear hc17
        refine rd 13 fun K hK=>?_
        obtain ⟨z18,c18,hrun18,hR18,hk18,hB18⟩:=hR17.app2 hHeld.size (by rw [HL2.out];have:=HK.out;omega) hb172
        rw [if_pos (by rfl)]
        refine wpOp_append_run12 (.tmp 29) (.tmp 34) 37 rfl _ _ _ rfl rfl hrun18 ?_
        refine hK.out _ _ (hHeld.trans hB18) (fun hHeld=>?_)
        clear hK K
        try simp only [Act.put,s_put,s_0,s_1]
        have hb183:=hk18 _ _ _ hb173
        clear hrun18 hk18 hB18
        refine rd 20 fun K hK=>?_
        obtain ⟨z19,c19,hrun19,hR19,hk19,hB19⟩:=hR18.app3 hHeld.size (by rw [HL3.out];have:=HK.out;omega) hb183
        rw [if_pos (by rfl)]
        refine wpOp_append_run12 (.tmp 36) (.tmp 41) 39 rfl _ _ _ rfl rfl hrun19 ?_
        refine hK.out _ _ (hHeld.trans hB19) (fun hHeld=>?_)
        clear hK K
        try simp only [Act.put,s_put,s_0,s_1]
        clear hrun19 hk19 hB19
        refine tk 21 ?_
        refine tk 22 ?_
        refine tk 23 ?_
        refine dn ?_
        go_wp2
        go_roundw
        case rel=>exact ⟨k+1,HK.out,by go_num,by rw [E1.out,E2.out,E3.out];exact hR19,hHeld⟩
        case measure=>have:=HK.out;simp [intOf];omega
      refine AllReadyH.cons (o:=⟨some 34,.buildSlice 37 1 #[(0,.tmp 33)],37,_,_,_⟩) rfl (fun K hK=>?_) ?_
      · go_simp
        refine hK.out _ _ (hHeld.alloc hHeld.size _) (fun hHeld=>?_)
        clear hK K
        try simp only [Act.put,s_put,s_0,s_1]
        obtain ⟨c23,hc23⟩:∃ z,c1.alloc (.cells #[.string y.t] 9)=z:=⟨_,rfl⟩
        have hR23:R3 w1.heap.size c23 u5 u6 u7 (X1 k) (X2 k) (X3 k):=by rw [← hc23];exact hR1.alloc _
        have hb232:Bx c23 u5 u6 u7 c1.heap.size 9 (.string y.t):=by rw [← hc23];exact Bx.new hR1 _ _
        have hb231:Bx c23 u5 u6 u7 c.heap.size 9 (.string y.s):=by rw [← hc23];exact hb11.alloc _
        rw [hc23] at hHeld ⊢
        clear hc23
        refine wpAnyH_ready (rs:=[6,19]) (by kernel_rfl) (by simp) ?_
        refine AllReadyH.cons (o:=⟨some 28,.call { callee:=.builtin Builtin.append,args:=#[.tmp 22,.tmp 27],argTypes:=#[37,37] },37,_,_,_⟩) rfl (fun K hK=>?_) ?_
        · obtain ⟨z24,c24,hrun24,hR24,hk24,hB24⟩:=hR23.app1 hHeld.size (by rw [HL1.out];have:=HK.out;omega) hb231
          rw [if_pos (by rfl)]
          refine wpOp_append_run12 (.tmp 22) (.tmp 27) 37 rfl _ _ _ rfl rfl hrun24 ?_
          refine hK.out _ _ (hHeld.trans hB24) (fun hHeld=>?_)
          clear hK K
          try simp only [Act.put,s_put,s_0,s_1]
          have hb242:=hk24 _ _ _ hb232
          clear hrun24 hk24 hB24
          refine wpAnyH_ready (rs:=[13,19]) (by kernel_rfl) (by simp) ?_
          refine AllReadyH.cons (o:=⟨some 35,.call { callee:=.builtin Builtin.append,args:=#[.tmp 29,.tmp 34],argTypes:=#[37,37] },37,_,_,_⟩) rfl (fun K hK=>?_) ?_
          · obtain ⟨z25,c25,hrun25,hR25,hk25,hB25⟩:=hR24.app2 hHeld.size (by rw [HL2.out];have:=HK.out;omega) hb242
            rw [if_pos (by rfl)]
            refine wpOp_append_run12 (.tmp 29) (.tmp 34) 37 rfl _ _ _ rfl rfl hrun25 ?_
            refine hK.out _ _ (hHeld.trans hB25) (fun hHeld=>?_)
            clear hK K
            try simp only [Act.put,s_put,s_0,s_1]
            clear hrun25 hk25 hB25
            refine rd 19 fun K hK=>?_
            go_simp
            refine hK.out _ _ (hHeld.alloc hHeld.size _) (fun hHeld=>?_)
            clear hK K
            try simp only [Act.put,s_put,s_0,s_1]
            obtain ⟨c26,hc26⟩:∃ z,c25.alloc (.cells #[.int .i64 y.k] 3)=z:=⟨_,rfl⟩
            have hR26:R3 w1.heap.size c26 z24 z25 u7 (X1 k ++ [.string y.s]) (X2 k ++ [.string y.t]) (X3 k):=by rw [← hc26];exact hR25.alloc _
            have hb263:Bx c26 z24 z25 u7 c25.heap.size 3 (.int .i64 y.k):=by rw [← hc26];exact Bx.new hR25 _ _
            rw [hc26] at hHeld ⊢
            clear hc26
            refine rd 20 fun K hK=>?_
            obtain ⟨z27,c27,hrun27,hR27,hk27,hB27⟩:=hR26.app3 hHeld.size (by rw [HL3.out];have:=HK.out;omega) hb263
            rw [if_pos (by rfl)]
            refine wpOp_append_run12 (.tmp 36) (.tmp 41) 39 rfl _ _ _ rfl rfl hrun27 ?_
            refine hK.out _ _ (hHeld.trans hB27) (fun hHeld=>?_)
            clear hK K
            try simp only [Act.put,s_put,s_0,s_1]
            clear hrun27 hk27 hB27
            refine tk 21 ?_
            refine tk 22 ?_
            refine tk 23 ?_
            refine dn ?_
            go_wp2
            go_roundw
            case rel=>exact ⟨k+1,HK.out,by go_num,by rw [E1.out,E2.out,E3.out];exact hR27,hHeld⟩
            case measure=>have:=HK.out;simp [intOf];omega
          refine AllReadyH.cons (o:=⟨some 41,.buildSlice 39 1 #[(0,.tmp 40)],39,_,_,_⟩) rfl (fun K hK=>?_) AllReadyH.nil
          go_simp
          refine hK.out _ _ (hHeld.alloc hHeld.size _) (fun hHeld=>?_)
          clear hK K
          try simp only [Act.put,s_put,s_0,s_1]
          obtain ⟨c31,hc31⟩:∃ z,c24.alloc (.cells #[.int .i64 y.k] 3)=z:=⟨_,rfl⟩
          have hR31:R3 w1.heap.size c31 z24 u6 u7 (X1 k ++ [.string y.s]) (X2 k) (X3 k):=by rw [← hc31];exact hR24.alloc _
          have hb313:Bx c31 z24 u6 u7 c24.heap.size 3 (.int .i64 y.k):=by rw [← hc31];exact Bx.new hR24 _ _
          have hb312:Bx c31 z24 u6 u7 c1.heap.size 9 (.string y.t):=by rw [← hc31];exact hb242.alloc _
          rw [hc31] at hHeld ⊢
          clear hc31
          refine rd 13 fun K hK=>?_
          obtain ⟨z32,c32,hrun32,hR32,hk32,hB32⟩:=hR31.app2 hHeld.size (by rw [HL2.out];have:=HK.out;omega) hb312
          rw [if_pos (by rfl)]
          refine wpOp_append_run12 (.tmp 29) (.tmp 34) 37 rfl _ _ _ rfl rfl hrun32 ?_
          refine hK.out _ _ (hHeld.trans hB32) (fun hHeld=>?_)
          clear hK K
          try simp only [Act.put,s_put,s_0,s_1]
          have hb323:=hk32 _ _ _ hb313
          clear hrun32 hk32 hB32
          refine rd 20 fun K hK=>?_
          obtain ⟨z33,c33,hrun33,hR33,hk33,hB33⟩:=hR32.app3 hHeld.size (by rw [HL3.out];have:=HK.out;omega) hb323
          rw [if_pos (by rfl)]
          refine wpOp_append_run12 (.tmp 36) (.tmp 41) 39 rfl _ _ _ rfl rfl hrun33 ?_
          refine hK.out _ _ (hHeld.trans hB33) (fun hHeld=>?_)
          clear hK K
          try simp only [Act.put,s_put,s_0,s_1]
          clear hrun33 hk33 hB33
          refine tk 21 ?_
          refine tk 22 ?_
          refine tk 23 ?_
          refine dn ?_
          go_wp2
          go_roundw
          case rel=>exact ⟨k+1,HK.out,by go_num,by rw [E1.out,E2.out,E3.out];exact hR33,hHeld⟩
          case measure=>have:=HK.out;simp [intOf];omega
        refine AllReadyH.cons (o:=⟨some 41,.buildSlice 39 1 #[(0,.tmp 40)],39,_,_,_⟩) rfl (fun K hK=>?_) AllReadyH.nil
        go_simp
        refine hK.out _ _ (hHeld.alloc hHeld.size _) (fun hHeld=>?_)
        clear hK K
        try simp only [Act.put,s_put,s_0,s_1]
        obtain ⟨c37,hc37⟩:∃ z,c23.alloc (.cells #[.int .i64 y.k] 3)=z:=⟨_,rfl⟩
        have hR37:R3 w1.heap.size c37 u5 u6 u7 (X1 k) (X2 k) (X3 k):=by rw [← hc37];exact hR23.alloc _
        have hb373:Bx c37 u5 u6 u7 c23.heap.size 3 (.int .i64 y.k):=by rw [← hc37];exact Bx.new hR23 _ _
        have hb371:Bx c37 u5 u6 u7 c.heap.size 9 (.string y.s):=by rw [← hc37];exact hb231.alloc _
        have hb372:Bx c37 u5 u6 u7 c1.heap.size 9 (.string y.t):=by rw [← hc37];exact hb232.alloc _
        rw [hc37] at hHeld ⊢
        clear hc37
        refine rd 6 fun K hK=>?_
        obtain ⟨z38,c38,hrun38,hR38,hk38,hB38⟩:=hR37.app1 hHeld.size (by rw [HL1.out];have:=HK.out;omega) hb371
        rw [if_pos (by rfl)]
        refine wpOp_append_run12 (.tmp 22) (.tmp 27) 37 rfl _ _ _ rfl rfl hrun38 ?_
        refine hK.out _ _ (hHeld.trans hB38) (fun hHeld=>?_)
        clear hK K
        try simp only [Act.put,s_put,s_0,s_1]
        have hb382:=hk38 _ _ _ hb372
        have hb383:=hk38 _ _ _ hb373
        clear hrun38 hk38 hB38
        refine rd 13 fun K hK=>?_
        obtain ⟨z39,c39,hrun39,hR39,hk39,hB39⟩:=hR38.app2 hHeld.size (by rw [HL2.out];have:=HK.out;omega) hb382
        rw [if_pos (by rfl)]
        refine wpOp_append_run12 (.tmp 29) (.tmp 34) 37 rfl _ _ _ rfl rfl hrun39 ?_
        refine hK.out _ _ (hHeld.trans hB39) (fun hHeld=>?_)
        clear hK K
        try simp only [Act.put,s_put,s_0,s_1]
        have hb393:=hk39 _ _ _ hb383
        clear hrun39 hk39 hB39
        refine rd 20 fun K hK=>?_
        obtain ⟨z40,c40,hrun40,hR40,hk40,hB40⟩:=hR39.app3 hHeld.size (by rw [HL3.out];have:=HK.out;omega) hb393
        rw [if_pos (by rfl)]
        refine wpOp_append_run12 (.tmp 36) (.tmp 41) 39 rfl _ _ _ rfl rfl hrun40 ?_
        refine hK.out _ _ (hHeld.trans hB40) (fun hHeld=>?_)
        clear hK K
        try simp only [Act.put,s_put,s_0,s_1]
        clear hrun40 hk40 hB40
        refine tk 21 ?_
        refine tk 22 ?_
        refine tk 23 ?_
        refine dn ?_
        go_wp2
        go_roundw
        case rel=>exact ⟨k+1,HK.out,by go_num,by rw [E1.out,E2.out,E3.out];exact hR40,hHeld⟩
        case measure=>have:=HK.out;simp [intOf];omega
      refine AllReadyH.cons (o:=⟨some 41,.buildSlice 39 1 #[(0,.tmp 40)],39,_,_,_⟩) rfl (fun K hK=>?_) AllReadyH.nil
      go_simp
      refine hK.out _ _ (hHeld.alloc hHeld.size _) (fun hHeld=>?_)
      clear hK K
      try simp only [Act.put,s_put,s_0,s_1]
      obtain ⟨c44,hc44⟩:∃ z,c1.alloc (.cells #[.int .i64 y.k] 3)=z:=⟨_,rfl⟩
      have hR44:R3 w1.heap.size c44 u5 u6 u7 (X1 k) (X2 k) (X3 k):=by rw [← hc44];exact hR1.alloc _
      have hb443:Bx c44 u5 u6 u7 c1.heap.size 3 (.int .i64 y.k):=by rw [← hc44];exact Bx.new hR1 _ _
      have hb441:Bx c44 u5 u6 u7 c.heap.size 9 (.string y.s):=by rw [← hc44];exact hb11.alloc _
      rw [hc44] at hHeld ⊢
      clear hc44
      refine wpAnyH_ready (rs:=[6,12]) (by kernel_rfl) (by simp) ?_
      refine AllReadyH.cons (o:=⟨some 28,.call { callee:=.builtin Builtin.append,args:=#[.tmp 22,.tmp 27],argTypes:=#[37,37] },37,_,_,_⟩) rfl (fun K hK=>?_) ?_
      · obtain ⟨z45,c45,hrun45,hR45,hk45,hB45⟩:=hR44.app1 hHeld.size (by rw [HL1.out];have:=HK.out;omega) hb441
        rw [if_pos (by rfl)]
        refine wpOp_append_run12 (.tmp 22) (.tmp 27) 37 rfl _ _ _ rfl rfl hrun45 ?_
        refine hK.out _ _ (hHeld.trans hB45) (fun hHeld=>?_)
        clear hK K
        try simp only [Act.put,s_put,s_0,s_1]
        have hb453:=hk45 _ _ _ hb443
        clear hrun45 hk45 hB45
        refine rd 12 fun K hK=>?_
        go_simp
        refine hK.out _ _ (hHeld.alloc hHeld.size _) (fun hHeld=>?_)
        clear hK K
        try simp only [Act.put,s_put,s_0,s_1]
        obtain ⟨c46,hc46⟩:∃ z,c45.alloc (.cells #[.string y.t] 9)=z:=⟨_,rfl⟩
        have hR46:R3 w1.heap.size c46 z45 u6 u7 (X1 k ++ [.string y.s]) (X2 k) (X3 k):=by rw [← hc46];exact hR45.alloc _
        have hb462:Bx c46 z45 u6 u7 c45.heap.size 9 (.string y.t):=by rw [← hc46];exact Bx.new hR45 _ _
        have hb463:Bx c46 z45 u6 u7 c1.heap.size 3 (.int .i64 y.k):=by rw [← hc46];exact hb453.alloc _
        rw [hc46] at hHeld ⊢
        clear hc46
        refine rd 13 fun K hK=>?_
        obtain ⟨z47,c47,hrun47,hR47,hk47,hB47⟩:=hR46.app2 hHeld.size (by rw [HL2.out];have:=HK.out;omega) hb462
        rw [if_pos (by rfl)]
        refine wpOp_append_run12 (.tmp 29) (.tmp 34) 37 rfl _ _ _ rfl rfl hrun47 ?_
        refine hK.out _ _ (hHeld.trans hB47) (fun hHeld=>?_)
        clear hK K
        try simp only [Act.put,s_put,s_0,s_1]
        have hb473:=hk47 _ _ _ hb463
        clear hrun47 hk47 hB47
        refine rd 20 fun K hK=>?_
        obtain ⟨z48,c48,hrun48,hR48,hk48,hB48⟩:=hR47.app3 hHeld.size (by rw [HL3.out];have:=HK.out;omega) hb473
        rw [if_pos (by rfl)]
        refine wpOp_append_run12 (.tmp 36) (.tmp 41) 39 rfl _ _ _ rfl rfl hrun48 ?_
        refine hK.out _ _ (hHeld.trans hB48) (fun hHeld=>?_)
        clear hK K
        try simp only [Act.put,s_put,s_0,s_1]
        clear hrun48 hk48 hB48
        refine tk 21 ?_
        refine tk 22 ?_
        refine tk 23 ?_
        refine dn ?_
        go_wp2
        go_roundw
        case rel=>exact ⟨k+1,HK.out,by go_num,by rw [E1.out,E2.out,E3.out];exact hR48,hHeld⟩
        case measure=>have:=HK.out;simp [intOf];omega
      refine AllReadyH.cons (o:=⟨some 34,.buildSlice 37 1 #[(0,.tmp 33)],37,_,_,_⟩) rfl (fun K hK=>?_) AllReadyH.nil
      go_simp
      refine hK.out _ _ (hHeld.alloc hHeld.size _) (fun hHeld=>?_)
      clear hK K
      try simp only [Act.put,s_put,s_0,s_1]
      obtain ⟨c52,hc52⟩:∃ z,c44.alloc (.cells #[.string y.t] 9)=z:=⟨_,rfl⟩
      have hR52:R3 w1.heap.size c52 u5 u6 u7 (X1 k) (X2 k) (X3 k):=by rw [← hc52];exact hR44.alloc _
      have hb522:Bx c52 u5 u6 u7 c44.heap.size 9 (.string y.t):=by rw [← hc52];exact Bx.new hR44 _ _
      have hb521:Bx c52 u5 u6 u7 c.heap.size 9 (.string y.s):=by rw [← hc52];exact hb441.alloc _
      have hb523:Bx c52 u5 u6 u7 c1.heap.size 3 (.int .i64 y.k):=by rw [← hc52];exact hb443.alloc _
      rw [hc52] at hHeld ⊢
      clear hc52
      refine rd 6 fun K hK=>?_
      obtain ⟨z53,c53,hrun53,hR53,hk53,hB53⟩:=hR52.app1 hHeld.size (by rw [HL1.out];have:=HK.out;omega) hb521
      rw [if_pos (by rfl)]
      refine wpOp_append_run12 (.tmp 22) (.tmp 27) 37 rfl _ _ _ rfl rfl hrun53 ?_
      refine hK.out _ _ (hHeld.trans hB53) (fun hHeld=>?_)
      clear hK K
      try simp only [Act.put,s_put,s_0,s_1]
      have hb533:=hk53 _ _ _ hb523
      have hb532:=hk53 _ _ _ hb522
      clear hrun53 hk53 hB53
      refine rd 13 fun K hK=>?_
      obtain ⟨z54,c54,hrun54,hR54,hk54,hB54⟩:=hR53.app2 hHeld.size (by rw [HL2.out];have:=HK.out;omega) hb532
      rw [if_pos (by rfl)]
      refine wpOp_append_run12 (.tmp 29) (.tmp 34) 37 rfl _ _ _ rfl rfl hrun54 ?_
      refine hK.out _ _ (hHeld.trans hB54) (fun hHeld=>?_)
      clear hK K
      try simp only [Act.put,s_put,s_0,s_1]
      have hb543:=hk54 _ _ _ hb533
      clear hrun54 hk54 hB54
      refine rd 20 fun K hK=>?_
      obtain ⟨z55,c55,hrun55,hR55,hk55,hB55⟩:=hR54.app3 hHeld.size (by rw [HL3.out];have:=HK.out;omega) hb543
      rw [if_pos (by rfl)]
      refine wpOp_append_run12 (.tmp 36) (.tmp 41) 39 rfl _ _ _ rfl rfl hrun55 ?_
      refine hK.out _ _ (hHeld.trans hB55) (fun hHeld=>?_)
      clear hK K
      try simp only [Act.put,s_put,s_0,s_1]
      clear hrun55 hk55 hB55
      refine tk 21 ?_
      refine tk 22 ?_
      refine tk 23 ?_
      refine dn ?_
      go_wp2
      go_roundw
      case rel=>exact ⟨k+1,HK.out,by go_num,by rw [E1.out,E2.out,E3.out];exact hR55,hHeld⟩
      case measure=>have:=HK.out;simp [intOf];omega
    refine AllReadyH.cons (o:=⟨some 34,.buildSlice 37 1 #[(0,.tmp 33)],37,_,_,_⟩) rfl (fun K hK=>?_) ?_
    · go_simp
      refine hK.out _ _ (hHeld.alloc hHeld.size _) (fun hHeld=>?_)
      clear hK K
      try simp only [Act.put,s_put,s_0,s_1]
      obtain ⟨c59,hc59⟩:∃ z,c.alloc (.cells #[.string y.t] 9)=z:=⟨_,rfl⟩
      have hR59:R3 w1.heap.size c59 u5 u6 u7 (X1 k) (X2 k) (X3 k):=by rw [← hc59];exact hR.alloc _
      have hb592:Bx c59 u5 u6 u7 c.heap.size 9 (.string y.t):=by rw [← hc59];exact Bx.new hR _ _
      rw [hc59] at hHeld ⊢
      clear hc59
      refine wpAnyH_ready (rs:=[5,19]) (by kernel_rfl) (by simp) ?_
      refine AllReadyH.cons (o:=⟨some 27,.buildSlice 37 1 #[(0,.tmp 26)],37,_,_,_⟩) rfl (fun K hK=>?_) ?_
      · go_simp
        refine hK.out _ _ (hHeld.alloc hHeld.size _) (fun hHeld=>?_)
        clear hK K
        try simp only [Act.put,s_put,s_0,s_1]
        obtain ⟨c60,hc60⟩:∃ z,c59.alloc (.cells #[.string y.s] 9)=z:=⟨_,rfl⟩
        have hR60:R3 w1.heap.size c60 u5 u6 u7 (X1 k) (X2 k) (X3 k):=by rw [← hc60];exact hR59.alloc _
        have hb601:Bx c60 u5 u6 u7 c59.heap.size 9 (.string y.s):=by rw [← hc60];exact Bx.new hR59 _ _
        have hb602:Bx c60 u5 u6 u7 c.heap.size 9 (.string y.t):=by rw [← hc60];exact hb592.alloc _
        rw [hc60] at hHeld ⊢
        clear hc60
        refine wpAnyH_ready (rs:=[6,19]) (by kernel_rfl) (by simp) ?_
        refine AllReadyH.cons (o:=⟨some 28,.call { callee:=.builtin Builtin.append,args:=#[.tmp 22,.tmp 27],argTypes:=#[37,37] },37,_,_,_⟩) rfl (fun K hK=>?_) ?_
        · obtain ⟨z61,c61,hrun61,hR61,hk61,hB61⟩:=hR60.app1 hHeld.size (by rw [HL1.out];have:=HK.out;omega) hb601
          rw [if_pos (by rfl)]
          refine wpOp_append_run12 (.tmp 22) (.tmp 27) 37 rfl _ _ _ rfl rfl hrun61 ?_
          refine hK.out _ _ (hHeld.trans hB61) (fun hHeld=>?_)
          clear hK K
          try simp only [Act.put,s_put,s_0,s_1]
          have hb612:=hk61 _ _ _ hb602
          clear hrun61 hk61 hB61
          refine wpAnyH_ready (rs:=[13,19]) (by kernel_rfl) (by simp) ?_
          refine AllReadyH.cons (o:=⟨some 35,.call { callee:=.builtin Builtin.append,args:=#[.tmp 29,.tmp 34],argTypes:=#[37,37] },37,_,_,_⟩) rfl (fun K hK=>?_) ?_
          · obtain ⟨z62,c62,hrun62,hR62,hk62,hB62⟩:=hR61.app2 hHeld.size (by rw [HL2.out];have:=HK.out;omega) hb612
            rw [if_pos (by rfl)]
            refine wpOp_append_run12 (.tmp 29) (.tmp 34) 37 rfl _ _ _ rfl rfl hrun62 ?_
            refine hK.out _ _ (hHeld.trans hB62) (fun hHeld=>?_)
            clear hK K
            try simp only [Act.put,s_put,s_0,s_1]
            clear hrun62 hk62 hB62
            refine rd 19 fun K hK=>?_
            go_simp
            refine hK.out _ _ (hHeld.alloc hHeld.size _) (fun hHeld=>?_)
            clear hK K
            try simp only [Act.put,s_put,s_0,s_1]
            obtain ⟨c63,hc63⟩:∃ z,c62.alloc (.cells #[.int .i64 y.k] 3)=z:=⟨_,rfl⟩
            have hR63:R3 w1.heap.size c63 z61 z62 u7 (X1 k ++ [.string y.s]) (X2 k ++ [.string y.t]) (X3 k):=by rw [← hc63];exact hR62.alloc _
            have hb633:Bx c63 z61 z62 u7 c62.heap.size 3 (.int .i64 y.k):=by rw [← hc63];exact Bx.new hR62 _ _
            rw [hc63] at hHeld ⊢
            clear hc63
            refine rd 20 fun K hK=>?_
            obtain ⟨z64,c64,hrun64,hR64,hk64,hB64⟩:=hR63.app3 hHeld.size (by rw [HL3.out];have:=HK.out;omega) hb633
            rw [if_pos (by rfl)]
            refine wpOp_append_run12 (.tmp 36) (.tmp 41) 39 rfl _ _ _ rfl rfl hrun64 ?_
            refine hK.out _ _ (hHeld.trans hB64) (fun hHeld=>?_)
            clear hK K
            try simp only [Act.put,s_put,s_0,s_1]
            clear hrun64 hk64 hB64
            refine tk 21 ?_
            refine tk 22 ?_
            refine tk 23 ?_
            refine dn ?_
            go_wp2
            go_roundw
            case rel=>exact ⟨k+1,HK.out,by go_num,by rw [E1.out,E2.out,E3.out];exact hR64,hHeld⟩
            case measure=>have:=HK.out;simp [intOf];omega
          refine AllReadyH.cons (o:=⟨some 41,.buildSlice 39 1 #[(0,.tmp 40)],39,_,_,_⟩) rfl (fun K hK=>?_) AllReadyH.nil
          go_simp
          refine hK.out _ _ (hHeld.alloc hHeld.size _) (fun hHeld=>?_)
          clear hK K
          try simp only [Act.put,s_put,s_0,s_1]
          obtain ⟨c68,hc68⟩:∃ z,c61.alloc (.cells #[.int .i64 y.k] 3)=z:=⟨_,rfl⟩
          have hR68:R3 w1.heap.size c68 z61 u6 u7 (X1 k ++ [.string y.s]) (X2 k) (X3 k):=by rw [← hc68];exact hR61.alloc _
          have hb683:Bx c68 z61 u6 u7 c61.heap.size 3 (.int .i64 y.k):=by rw [← hc68];exact Bx.new hR61 _ _
          have hb682:Bx c68 z61 u6 u7 c.heap.size 9 (.string y.t):=by rw [← hc68];exact hb612.alloc _
          rw [hc68] at hHeld ⊢
          clear hc68
          refine rd 13 fun K hK=>?_
          obtain ⟨z69,c69,hrun69,hR69,hk69,hB69⟩:=hR68.app2 hHeld.size (by rw [HL2.out];have:=HK.out;omega) hb682
          rw [if_pos (by rfl)]
          refine wpOp_append_run12 (.tmp 29) (.tmp 34) 37 rfl _ _ _ rfl rfl hrun69 ?_
          refine hK.out _ _ (hHeld.trans hB69) (fun hHeld=>?_)
          clear hK K
          try simp only [Act.put,s_put,s_0,s_1]
          have hb693:=hk69 _ _ _ hb683
          clear hrun69 hk69 hB69
          refine rd 20 fun K hK=>?_
          obtain ⟨z70,c70,hrun70,hR70,hk70,hB70⟩:=hR69.app3 hHeld.size (by rw [HL3.out];have:=HK.out;omega) hb693
          rw [if_pos (by rfl)]
          refine wpOp_append_run12 (.tmp 36) (.tmp 41) 39 rfl _ _ _ rfl rfl hrun70 ?_
          refine hK.out _ _ (hHeld.trans hB70) (fun hHeld=>?_)
          clear hK K
          try simp only [Act.put,s_put,s_0,s_1]
          clear hrun70 hk70 hB70
          refine tk 21 ?_
          refine tk 22 ?_
          refine tk 23 ?_
          refine dn ?_
          go_wp2
          go_roundw
          case rel=>exact ⟨k+1,HK.out,by go_num,by rw [E1.out,E2.out,E3.out];exact hR70,hHeld⟩
          case measure=>have:=HK.out;simp [intOf];omega
        refine AllReadyH.cons (o:=⟨some 41,.buildSlice 39 1 #[(0,.tmp 40)],39,_,_,_⟩) rfl (fun K hK=>?_) AllReadyH.nil
        go_simp
        refine hK.out _ _ (hHeld.alloc hHeld.size _) (fun hHeld=>?_)
        clear hK K
        try simp only [Act.put,s_put,s_0,s_1]
        obtain ⟨c74,hc74⟩:∃ z,c60.alloc (.cells #[.int .i64 y.k] 3)=z:=⟨_,rfl⟩
        have hR74:R3 w1.heap.size c74 u5 u6 u7 (X1 k) (X2 k) (X3 k):=by rw [← hc74];exact hR60.alloc _
        have hb743:Bx c74 u5 u6 u7 c60.heap.size 3 (.int .i64 y.k):=by rw [← hc74];exact Bx.new hR60 _ _
        have hb742:Bx c74 u5 u6 u7 c.heap.size 9 (.string y.t):=by rw [← hc74];exact hb602.alloc _
        have hb741:Bx c74 u5 u6 u7 c59.heap.size 9 (.string y.s):=by rw [← hc74];exact hb601.alloc _
        rw [hc74] at hHeld ⊢
        clear hc74
        refine rd 6 fun K hK=>?_
        obtain ⟨z75,c75,hrun75,hR75,hk75,hB75⟩:=hR74.app1 hHeld.size (by rw [HL1.out];have:=HK.out;omega) hb741
        rw [if_pos (by rfl)]
        refine wpOp_append_run12 (.tmp 22) (.tmp 27) 37 rfl _ _ _ rfl rfl hrun75 ?_
        refine hK.out _ _ (hHeld.trans hB75) (fun hHeld=>?_)
        clear hK K
        try simp only [Act.put,s_put,s_0,s_1]
        have hb752:=hk75 _ _ _ hb742
        have hb753:=hk75 _ _ _ hb743
        clear hrun75 hk75 hB75
        refine rd 13 fun K hK=>?_
        obtain ⟨z76,c76,hrun76,hR76,hk76,hB76⟩:=hR75.app2 hHeld.size (by rw [HL2.out];have:=HK.out;omega) hb752
        rw [if_pos (by rfl)]
        refine wpOp_append_run12 (.tmp 29) (.tmp 34) 37 rfl _ _ _ rfl rfl hrun76 ?_
        refine hK.out _ _ (hHeld.trans hB76) (fun hHeld=>?_)
        clear hK K
        try simp only [Act.put,s_put,s_0,s_1]
        have hb763:=hk76 _ _ _ hb753
        clear hrun76 hk76 hB76
        refine rd 20 fun K hK=>?_
        obtain ⟨z77,c77,hrun77,hR77,hk77,hB77⟩:=hR76.app3 hHeld.size (by rw [HL3.out];have:=HK.out;omega) hb763
        rw [if_pos (by rfl)]
        refine wpOp_append_run12 (.tmp 36) (.tmp 41) 39 rfl _ _ _ rfl rfl hrun77 ?_
        refine hK.out _ _ (hHeld.trans hB77) (fun hHeld=>?_)
        clear hK K
        try simp only [Act.put,s_put,s_0,s_1]
        clear hrun77 hk77 hB77
        refine tk 21 ?_
        refine tk 22 ?_
        refine tk 23 ?_
        refine dn ?_
        go_wp2
        go_roundw
        case rel=>exact ⟨k+1,HK.out,by go_num,by rw [E1.out,E2.out,E3.out];exact hR77,hHeld⟩
        case measure=>have:=HK.out;simp [intOf];omega
      refine AllReadyH.cons (o:=⟨some 41,.buildSlice 39 1 #[(0,.tmp 40)],39,_,_,_⟩) rfl (fun K hK=>?_) AllReadyH.nil
      go_simp
      refine hK.out _ _ (hHeld.alloc hHeld.size _) (fun hHeld=>?_)
      clear hK K
      try simp only [Act.put,s_put,s_0,s_1]
      obtain ⟨c81,hc81⟩:∃ z,c59.alloc (.cells #[.int .i64 y.k] 3)=z:=⟨_,rfl⟩
      have hR81:R3 w1.heap.size c81 u5 u6 u7 (X1 k) (X2 k) (X3 k):=by rw [← hc81];exact hR59.alloc _
      have hb813:Bx c81 u5 u6 u7 c59.heap.size 3 (.int .i64 y.k):=by rw [← hc81];exact Bx.new hR59 _ _
      have hb812:Bx c81 u5 u6 u7 c.heap.size 9 (.string y.t):=by rw [← hc81];exact hb592.alloc _
      rw [hc81] at hHeld ⊢
      clear hc81
      refine rd 5 fun K hK=>?_
      go_simp
      refine hK.out _ _ (hHeld.alloc hHeld.size _) (fun hHeld=>?_)
      clear hK K
      try simp only [Act.put,s_put,s_0,s_1]
      obtain ⟨c82,hc82⟩:∃ z,c81.alloc (.cells #[.string y.s] 9)=z:=⟨_,rfl⟩
      have hR82:R3 w1.heap.size c82 u5 u6 u7 (X1 k) (X2 k) (X3 k):=by rw [← hc82];exact hR81.alloc _
      have hb821:Bx c82 u5 u6 u7 c81.heap.size 9 (.string y.s):=by rw [← hc82];exact Bx.new hR81 _ _
      have hb822:Bx c82 u5 u6 u7 c.heap.size 9 (.string y.t):=by rw [← hc82];exact hb812.alloc _
      have hb823:Bx c82 u5 u6 u7 c59.heap.size 3 (.int .i64 y.k):=by rw [← hc82];exact hb813.alloc _
      rw [hc82] at hHeld ⊢
      clear hc82
      refine rd 6 fun K hK=>?_
      obtain ⟨z83,c83,hrun83,hR83,hk83,hB83⟩:=hR82.app1 hHeld.size (by rw [HL1.out];have:=HK.out;omega) hb821
      rw [if_pos (by rfl)]
      refine wpOp_append_run12 (.tmp 22) (.tmp 27) 37 rfl _ _ _ rfl rfl hrun83 ?_
      refine hK.out _ _ (hHeld.trans hB83) (fun hHeld=>?_)
      clear hK K
      try simp only [Act.put,s_put,s_0,s_1]
      have hb832:=hk83 _ _ _ hb822
      have hb833:=hk83 _ _ _ hb823
      clear hrun83 hk83 hB83
      refine rd 13 fun K hK=>?_
      obtain ⟨z84,c84,hrun84,hR84,hk84,hB84⟩:=hR83.app2 hHeld.size (by rw [HL2.out];have:=HK.out;omega) hb832
      rw [if_pos (by rfl)]
      refine wpOp_append_run12 (.tmp 29) (.tmp 34) 37 rfl _ _ _ rfl rfl hrun84 ?_
      refine hK.out _ _ (hHeld.trans hB84) (fun hHeld=>?_)
      clear hK K
      try simp only [Act.put,s_put,s_0,s_1]
      have hb843:=hk84 _ _ _ hb833
      clear hrun84 hk84 hB84
      refine rd 20 fun K hK=>?_
      obtain ⟨z85,c85,hrun85,hR85,hk85,hB85⟩:=hR84.app3 hHeld.size (by rw [HL3.out];have:=HK.out;omega) hb843
      rw [if_pos (by rfl)]
      refine wpOp_append_run12 (.tmp 36) (.tmp 41) 39 rfl _ _ _ rfl rfl hrun85 ?_
      refine hK.out _ _ (hHeld.trans hB85) (fun hHeld=>?_)
      clear hK K
      try simp only [Act.put,s_put,s_0,s_1]
      clear hrun85 hk85 hB85
      refine tk 21 ?_
      refine tk 22 ?_
      refine tk 23 ?_
      refine dn ?_
      go_wp2
      go_roundw
      case rel=>exact ⟨k+1,HK.out,by go_num,by rw [E1.out,E2.out,E3.out];exact hR85,hHeld⟩
      case measure=>have:=HK.out;simp [intOf];omega
    refine AllReadyH.cons (o:=⟨some 41,.buildSlice 39 1 #[(0,.tmp 40)],39,_,_,_⟩) rfl (fun K hK=>?_) AllReadyH.nil
    go_simp
    refine hK.out _ _ (hHeld.alloc hHeld.size _) (fun hHeld=>?_)
    clear hK K
    try simp only [Act.put,s_put,s_0,s_1]
    obtain ⟨c89,hc89⟩:∃ z,c.alloc (.cells #[.int .i64 y.k] 3)=z:=⟨_,rfl⟩
    have hR89:R3 w1.heap.size c89 u5 u6 u7 (X1 k) (X2 k) (X3 k):=by rw [← hc89];exact hR.alloc _
    have hb893:Bx c89 u5 u6 u7 c.heap.size 3 (.int .i64 y.k):=by rw [← hc89];exact Bx.new hR _ _
    rw [hc89] at hHeld ⊢
    clear hc89
    refine wpAnyH_ready (rs:=[5,12]) (by kernel_rfl) (by simp) ?_
    refine AllReadyH.cons (o:=⟨some 27,.buildSlice 37 1 #[(0,.tmp 26)],37,_,_,_⟩) rfl (fun K hK=>?_) ?_
    · go_simp
      refine hK.out _ _ (hHeld.alloc hHeld.size _) (fun hHeld=>?_)
      clear hK K
      try simp only [Act.put,s_put,s_0,s_1]
      obtain ⟨c90,hc90⟩:∃ z,c89.alloc (.cells #[.string y.s] 9)=z:=⟨_,rfl⟩
      have hR90:R3 w1.heap.size c90 u5 u6 u7 (X1 k) (X2 k) (X3 k):=by rw [← hc90];exact hR89.alloc _
      have hb901:Bx c90 u5 u6 u7 c89.heap.size 9 (.string y.s):=by rw [← hc90];exact Bx.new hR89 _ _
      have hb903:Bx c90 u5 u6 u7 c.heap.size 3 (.int .i64 y.k):=by rw [← hc90];exact hb893.alloc _
      rw [hc90] at hHeld ⊢
      clear hc90
      refine wpAnyH_ready (rs:=[6,12]) (by kernel_rfl) (by simp) ?_
      refine AllReadyH.cons (o:=⟨some 28,.call { callee:=.builtin Builtin.append,args:=#[.tmp 22,.tmp 27],argTypes:=#[37,37] },37,_,_,_⟩) rfl (fun K hK=>?_) ?_
      · obtain ⟨z91,c91,hrun91,hR91,hk91,hB91⟩:=hR90.app1 hHeld.size (by rw [HL1.out];have:=HK.out;omega) hb901
        rw [if_pos (by rfl)]
        refine wpOp_append_run12 (.tmp 22) (.tmp 27) 37 rfl _ _ _ rfl rfl hrun91 ?_
        refine hK.out _ _ (hHeld.trans hB91) (fun hHeld=>?_)
        clear hK K
        try simp only [Act.put,s_put,s_0,s_1]
        have hb913:=hk91 _ _ _ hb903
        clear hrun91 hk91 hB91
        refine rd 12 fun K hK=>?_
        go_simp
        refine hK.out _ _ (hHeld.alloc hHeld.size _) (fun hHeld=>?_)
        clear hK K
        try simp only [Act.put,s_put,s_0,s_1]
        obtain ⟨c92,hc92⟩:∃ z,c91.alloc (.cells #[.string y.t] 9)=z:=⟨_,rfl⟩
        have hR92:R3 w1.heap.size c92 z91 u6 u7 (X1 k ++ [.string y.s]) (X2 k) (X3 k):=by rw [← hc92];exact hR91.alloc _
        have hb922:Bx c92 z91 u6 u7 c91.heap.size 9 (.string y.t):=by rw [← hc92];exact Bx.new hR91 _ _
        have hb923:Bx c92 z91 u6 u7 c.heap.size 3 (.int .i64 y.k):=by rw [← hc92];exact hb913.alloc _
        rw [hc92] at hHeld ⊢
        clear hc92
        refine rd 13 fun K hK=>?_
        obtain ⟨z93,c93,hrun93,hR93,hk93,hB93⟩:=hR92.app2 hHeld.size (by rw [HL2.out];have:=HK.out;omega) hb922
        rw [if_pos (by rfl)]
        refine wpOp_append_run12 (.tmp 29) (.tmp 34) 37 rfl _ _ _ rfl rfl hrun93 ?_
        refine hK.out _ _ (hHeld.trans hB93) (fun hHeld=>?_)
        clear hK K
        try simp only [Act.put,s_put,s_0,s_1]
        have hb933:=hk93 _ _ _ hb923
        clear hrun93 hk93 hB93
        refine rd 20 fun K hK=>?_
        obtain ⟨z94,c94,hrun94,hR94,hk94,hB94⟩:=hR93.app3 hHeld.size (by rw [HL3.out];have:=HK.out;omega) hb933
        rw [if_pos (by rfl)]
        refine wpOp_append_run12 (.tmp 36) (.tmp 41) 39 rfl _ _ _ rfl rfl hrun94 ?_
        refine hK.out _ _ (hHeld.trans hB94) (fun hHeld=>?_)
        clear hK K
        try simp only [Act.put,s_put,s_0,s_1]
        clear hrun94 hk94 hB94
        refine tk 21 ?_
        refine tk 22 ?_
        refine tk 23 ?_
        refine dn ?_
        go_wp2
        go_roundw
        case rel=>exact ⟨k+1,HK.out,by go_num,by rw [E1.out,E2.out,E3.out];exact hR94,hHeld⟩
        case measure=>have:=HK.out;simp [intOf];omega
      refine AllReadyH.cons (o:=⟨some 34,.buildSlice 37 1 #[(0,.tmp 33)],37,_,_,_⟩) rfl (fun K hK=>?_) AllReadyH.nil
      go_simp
      refine hK.out _ _ (hHeld.alloc hHeld.size _) (fun hHeld=>?_)
      clear hK K
      try simp only [Act.put,s_put,s_0,s_1]
      obtain ⟨c98,hc98⟩:∃ z,c90.alloc (.cells #[.string y.t] 9)=z:=⟨_,rfl⟩
      have hR98:R3 w1.heap.size c98 u5 u6 u7 (X1 k) (X2 k) (X3 k):=by rw [← hc98];exact hR90.alloc _
      have hb982:Bx c98 u5 u6 u7 c90.heap.size 9 (.string y.t):=by rw [← hc98];exact Bx.new hR90 _ _
      have hb983:Bx c98 u5 u6 u7 c.heap.size 3 (.int .i64 y.k):=by rw [← hc98];exact hb903.alloc _
      have hb981:Bx c98 u5 u6 u7 c89.heap.size 9 (.string y.s):=by rw [← hc98];exact hb901.alloc _
      rw [hc98] at hHeld ⊢
      clear hc98
      refine rd 6 fun K hK=>?_
      obtain ⟨z99,c99,hrun99,hR99,hk99,hB99⟩:=hR98.app1 hHeld.size (by rw [HL1.out];have:=HK.out;omega) hb981
      rw [if_pos (by rfl)]
      refine wpOp_append_run12 (.tmp 22) (.tmp 27) 37 rfl _ _ _ rfl rfl hrun99 ?_
      refine hK.out _ _ (hHeld.trans hB99) (fun hHeld=>?_)
      clear hK K
      try simp only [Act.put,s_put,s_0,s_1]
      have hb993:=hk99 _ _ _ hb983
      have hb992:=hk99 _ _ _ hb982
      clear hrun99 hk99 hB99
      refine rd 13 fun K hK=>?_
      obtain ⟨z100,c100,hrun100,hR100,hk100,hB100⟩:=hR99.app2 hHeld.size (by rw [HL2.out];have:=HK.out;omega) hb992
      rw [if_pos (by rfl)]
      refine wpOp_append_run12 (.tmp 29) (.tmp 34) 37 rfl _ _ _ rfl rfl hrun100 ?_
      refine hK.out _ _ (hHeld.trans hB100) (fun hHeld=>?_)
      clear hK K
      try simp only [Act.put,s_put,s_0,s_1]
      have hb1003:=hk100 _ _ _ hb993
      clear hrun100 hk100 hB100
      refine rd 20 fun K hK=>?_
      obtain ⟨z101,c101,hrun101,hR101,hk101,hB101⟩:=hR100.app3 hHeld.size (by rw [HL3.out];have:=HK.out;omega) hb1003
      rw [if_pos (by rfl)]
      refine wpOp_append_run12 (.tmp 36) (.tmp 41) 39 rfl _ _ _ rfl rfl hrun101 ?_
      refine hK.out _ _ (hHeld.trans hB101) (fun hHeld=>?_)
      clear hK K
      try simp only [Act.put,s_put,s_0,s_1]
      clear hrun101 hk101 hB101
      refine tk 21 ?_
      refine tk 22 ?_
      refine tk 23 ?_
      refine dn ?_
      go_wp2
      go_roundw
      case rel=>exact ⟨k+1,HK.out,by go_num,by rw [E1.out,E2.out,E3.out];exact hR101,hHeld⟩
      case measure=>have:=HK.out;simp [intOf];omega
    refine AllReadyH.cons (o:=⟨some 34,.buildSlice 37 1 #[(0,.tmp 33)],37,_,_,_⟩) rfl (fun K hK=>?_) AllReadyH.nil
    go_simp
    refine hK.out _ _ (hHeld.alloc hHeld.size _) (fun hHeld=>?_)
    clear hK K
    try simp only [Act.put,s_put,s_0,s_1]
    obtain ⟨c105,hc105⟩:∃ z,c89.alloc (.cells #[.string y.t] 9)=z:=⟨_,rfl⟩
    have hR105:R3 w1.heap.size c105 u5 u6 u7 (X1 k) (X2 k) (X3 k):=by rw [← hc105];exact hR89.alloc _
    have hb1052:Bx c105 u5 u6 u7 c89.heap.size 9 (.string y.t):=by rw [← hc105];exact Bx.new hR89 _ _
    have hb1053:Bx c105 u5 u6 u7 c.heap.size 3 (.int .i64 y.k):=by rw [← hc105];exact hb893.alloc _
    rw [hc105] at hHeld ⊢
    clear hc105
    refine rd 5 fun K hK=>?_
    go_simp
    refine hK.out _ _ (hHeld.alloc hHeld.size _) (fun hHeld=>?_)
    clear hK K
    try simp only [Act.put,s_put,s_0,s_1]
    obtain ⟨c106,hc106⟩:∃ z,c105.alloc (.cells #[.string y.s] 9)=z:=⟨_,rfl⟩
    have hR106:R3 w1.heap.size c106 u5 u6 u7 (X1 k) (X2 k) (X3 k):=by rw [← hc106];exact hR105.alloc _
    have hb1061:Bx c106 u5 u6 u7 c105.heap.size 9 (.string y.s):=by rw [← hc106];exact Bx.new hR105 _ _
    have hb1063:Bx c106 u5 u6 u7 c.heap.size 3 (.int .i64 y.k):=by rw [← hc106];exact hb1053.alloc _
    have hb1062:Bx c106 u5 u6 u7 c89.heap.size 9 (.string y.t):=by rw [← hc106];exact hb1052.alloc _
    rw [hc106] at hHeld ⊢
    clear hc106
    refine rd 6 fun K hK=>?_
    obtain ⟨z107,c107,hrun107,hR107,hk107,hB107⟩:=hR106.app1 hHeld.size (by rw [HL1.out];have:=HK.out;omega) hb1061
    rw [if_pos (by rfl)]
    refine wpOp_append_run12 (.tmp 22) (.tmp 27) 37 rfl _ _ _ rfl rfl hrun107 ?_
    refine hK.out _ _ (hHeld.trans hB107) (fun hHeld=>?_)
    clear hK K
    try simp only [Act.put,s_put,s_0,s_1]
    have hb1073:=hk107 _ _ _ hb1063
    have hb1072:=hk107 _ _ _ hb1062
    clear hrun107 hk107 hB107
    refine rd 13 fun K hK=>?_
    obtain ⟨z108,c108,hrun108,hR108,hk108,hB108⟩:=hR107.app2 hHeld.size (by rw [HL2.out];have:=HK.out;omega) hb1072
    rw [if_pos (by rfl)]
    refine wpOp_append_run12 (.tmp 29) (.tmp 34) 37 rfl _ _ _ rfl rfl hrun108 ?_
    refine hK.out _ _ (hHeld.trans hB108) (fun hHeld=>?_)
    clear hK K
    try simp only [Act.put,s_put,s_0,s_1]
    have hb1083:=hk108 _ _ _ hb1073
    clear hrun108 hk108 hB108
    refine rd 20 fun K hK=>?_
    obtain ⟨z109,c109,hrun109,hR109,hk109,hB109⟩:=hR108.app3 hHeld.size (by rw [HL3.out];have:=HK.out;omega) hb1083
    rw [if_pos (by rfl)]
    refine wpOp_append_run12 (.tmp 36) (.tmp 41) 39 rfl _ _ _ rfl rfl hrun109 ?_
    refine hK.out _ _ (hHeld.trans hB109) (fun hHeld=>?_)
    clear hK K
    try simp only [Act.put,s_put,s_0,s_1]
    clear hrun109 hk109 hB109
    refine tk 21 ?_
    refine tk 22 ?_
    refine tk 23 ?_
    refine dn ?_
    go_wp2
    go_roundw
    case rel=>exact ⟨k+1,HK.out,by go_num,by rw [E1.out,E2.out,E3.out];exact hR109,hHeld⟩
    case measure=>have:=HK.out;simp [intOf];omega
  · obtain rfl:k=m:=by omega
    go_wp2
    refine bodyPost_ret (results_tmp3 rfl _ _ _) rfl ?_
    exact ⟨_,_,_,rfl,⟨own_low12 hR.o1 (Nat.le_trans HBA.out.size HB1.out.size),own_low12 hR.o2 (Nat.le_trans HBA.out.size HB1.out.size),own_low12 hR.o3 (Nat.le_trans HBA.out.size HB1.out.size),hR.a12,hR.a13,hR.a23⟩,HBA.out.trans ((HB1.out.trans (hB.mono HB1.out.size)).mono HBA.out.size)⟩
end Go.Proofs.YtkfpgkohkhhlhaaGreatDoor
