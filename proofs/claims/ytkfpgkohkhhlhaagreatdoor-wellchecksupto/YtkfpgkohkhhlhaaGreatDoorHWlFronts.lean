/- Texts that the last one stands on. -/
import Derived.Test.YtkfpgkohkhhlhaaGreatDoorHWlTypes
import Derived.Lib.SlMapFilter
set_option maxRecDepth 100000
set_option maxHeartbeats 8000000
namespace Go.Proofs.YtkfpgkohkhhlhaaGreatDoor
open Go.RowKit Go.Shelf
def cellsF (L:List Pt):List Value:=L.map fun f=>.slice f.a f.n f.cap
theorem infoF:(Tryz.prog.info? 23).map (fun i=>(i.zero,i.size,i.bytes))=some (some (.slice none 0 0),1,24):=by kernel_rfl
abbrev frontV (Bl Bv Bd:Nat):Value:=.func (.func 88) #[] #[.pointer (some ⟨Bl,0,none⟩),.pointer (some ⟨Bv,0,none⟩),.pointer (some ⟨Bd,0,none⟩)]
structure FrS (Bl:Nat) (W:World) (v:Value) (W':World) (v':Value):Prop where
 os:W'.os=W.os
 tape:W'.tape=W.tape
 output:W'.output=W.output
 size:W.heap.size≤W'.heap.size
 keep:∀ k,k < W.heap.size→k ≠ Bl→some k ≠ v.ownBlock→W'.heap[k]? = W.heap[k]?
 blk:v'.ownBlock=v.ownBlock ∨ ∀ g,v'.ownBlock=some g→W.heap.size≤g
theorem FrS.refl (Bl:Nat) (W:World) (v:Value):FrS Bl W v W v:=⟨rfl,rfl,rfl,Nat.le_refl _,fun _ _ _ _=>rfl,.inl rfl⟩
theorem FrS.trans {Bl:Nat} {A B C:World} {u v z:Value} (h:FrS Bl A u B v) (g:FrS Bl B v C z):FrS Bl A u C z:=by
 refine ⟨g.os.trans h.os,g.tape.trans h.tape,g.output.trans h.output,Nat.le_trans h.size g.size,fun k hk h1 h2=>?_,?_⟩
 · refine (g.keep k (Nat.lt_of_lt_of_le hk h.size) h1 fun e=>?_).trans (h.keep k hk h1 h2)
   rcases h.blk with b | b
   · exact h2 (e.trans b)
   · have:=b k e.symm;omega
 · rcases g.blk with b | b
   · rcases h.blk with b' | b'
     · exact .inl (b.trans b')
     · exact .inr fun q hq=>b' q (b.symm.trans hq)
   · exact .inr fun q hq=>Nat.le_trans h.size (b q hq)
theorem FrS.of_below {Bl:Nat} {A B:World} {v:Value} (h:Below A.heap.size A B):FrS Bl A v B v:=⟨h.os,h.tape,h.output,h.size,fun k hk _ _=>h.block k hk,.inl rfl⟩
theorem FrS.below {Bl:Nat} {A B:World} {u v:Value} (h:FrS Bl A u B v) {n:Nat} (hn:n≤A.heap.size) (hb:n≤Bl) (hv:∀ g,u.ownBlock=some g→n≤g):Below n A B :=
 ⟨h.os,h.tape,h.output,h.size,fun k hk=>h.keep k (by omega) (by omega) fun e=>by have:=hv k e.symm;omega⟩
def FrJ (s0:Nat) (s:ByteArray) (L:List Pt) (W:World) (v:Value):Prop :=
 Boxed W (s0+2) 78 v∧W.ownsRow (s0+4) 23 1 v L.length (cellsF L)∧Boxed W (s0+1) 9 (.string s)∧Boxed W (s0+3) 149 (frontV (s0+2) (s0+1) (s0+3))
theorem FrJ.own {s0:Nat} {s:ByteArray} {L:List Pt} {W:World} {v:Value} (h:FrJ s0 s L W v):∀ g,v.ownBlock=some g→s0+4≤g∧g < W.heap.size:=fun g e=>h.2.1.lt g e
theorem FrJ.later {s0:Nat} {s:ByteArray} {L:List Pt} {W W':World} {v:Value} (h:FrJ s0 s L W v) (hB:Below W.heap.size W W'):FrJ s0 s L W' v :=
 ⟨Boxed.kept_of h.1 hB h.1.lt,own_laterS h.2.1 hB,Boxed.kept_of h.2.2.1 hB h.2.2.1.lt,Boxed.kept_of h.2.2.2 hB h.2.2.2.lt⟩
theorem FrJ.drew {s0:Nat} {s:ByteArray} {L:List Pt} {W:World} {v:Value} (h:FrJ s0 s L W v):FrJ s0 s L W.drew v:=h
theorem FrJ.push {s0:Nat} {s:ByteArray} {L:List Pt} {W:World} {v:Value} (h:FrJ s0 s L W v) (hL:L.length≤1048576) (f:Pt):∃ v' w1,
 (Builtin.append_ #[78,78] 78 #[v,.slice (some ⟨W.heap.size,0,none⟩) 1 1]).run Tryz.prog (W.alloc (.cells #[.slice f.a f.n f.cap] 23))=.ok v' w1∧Boxed w1 (s0+2) 78 v ∧
   FrJ s0 s (L ++ [f]) (w1.setCell ⟨s0+2,0,none⟩ v') v'∧FrS (s0+2) W v (w1.setCell ⟨s0+2,0,none⟩ v') v':=by
 obtain ⟨h1,h2,h3,h4⟩:=h
 obtain ⟨i0,hi,hz0,hz1,hz2⟩:=info_parts infoF
 obtain ⟨v',w1,hrun,hown',hgrow,hnil',hblk⟩:=run_append_own_at (P:=Tryz.prog) (w:=W.alloc (.cells #[.slice f.a f.n f.cap] 23)) (s0+4) 78 78 23 i0 (.slice none 0 0) 1 24 Tryz.underlying78 hi hz0 hz1 hz2 rfl (by decide) v _ _ (h2.alloc _) ⟨W.heap.size,0,none⟩ 1 1 [.slice f.a f.n f.cap] rfl
  (cell_one_new W (.slice f.a f.n f.cap) 23) (by simp [Value.oneCell']) (by unfold maxLen;omega) (by omega) (by have:=h4.lt;simp;omega)
 have hs1:=hgrow.size
 rw [World.size_alloc] at hs1 hblk
 have hl1:=h1.lt
 have keep:∀ k,k < W.heap.size→some k ≠ v.ownBlock→w1.heap[k]? = W.heap[k]?:=fun k hk hne=>(hgrow.block k (by rw [World.size_alloc];omega) hne).trans (Below.heap_alloc W _ k hk)
 have ne:∀ {b:Nat} {t:TypeId} {u:Value},Boxed W b t u→b < s0+4→Boxed w1 b t u:=fun {b t u} hb hlt=>(keep b hb.lt (fun e=>by have:=(h2.lt b e.symm).1;omega)).trans hb
 have b1:=ne h1 (by omega)
 obtain ⟨g',cap',e'⟩:=ownsRow_succ hown'
 have hv':v'.ownBlock=some g':=by rw [e'];rfl
 have hgb:s0+4≤g':=(hown'.lt g' hv').1
 have e1:cellsF (L ++ [f])=cellsF L ++ [.slice f.a f.n f.cap]:=by simp [cellsF]
 refine ⟨v',w1,hrun,b1,⟨b1.set _,?_,(ne h3 (by omega)).other (by omega) _,(ne h4 (by omega)).other (by omega) _⟩,hgrow.os,hgrow.tape,hgrow.output,?_,fun k hk h1' h2'=>?_,?_⟩
 · rw [e1,List.length_append]
   exact hown'.kept (grownBy_setCell' w1 (s0+2) _) (.inr fun e=>by rw [hv'] at e;injection e with e;omega)
 · rw [World.size_setCell];omega
 · exact (Below.heap_setCell w1 ⟨s0+2,0,none⟩ v' k h1').trans (keep k hk h2')
 · rcases hblk with b | b
   · exact .inl b
   · exact .inr fun g hg=>by rw [b] at hg;injection hg with hg;omega
theorem front1_in (w0:World) (s0:Nat) (s:ByteArray) (hw0:w0.heap.size=s0):∀ (x:Pt) (n:Nat) (L:List Pt) (W:World) (v:Value),IsP w0 x→Below s0 w0 W→L.length+x.size≤1048576→FrJ s0 s L W v →
 CallsIn Fence.wide n Tryz.prog 88 #[x.val,.pointer (some ⟨s0+2,0,none⟩),.pointer (some ⟨s0+1,0,none⟩),.pointer (some ⟨s0+3,0,none⟩)] W fun e W'=>(∃ u,e=.returned u)∧∃ v',FrJ s0 s (L ++ frP s x) W' v'∧FrS (s0+2) W v W' v':=by
 refine Pt.ind fun x ih n L W v hX hB0 hsz hJ=>?_
 have hdd:∀ k:Nat,(Fence.wide.depth.isSome=true→1≤k):=fun k h=>by cases h
 obtain ⟨A,hA,hBA,hs,hn⟩:=boxP_one x W
 have hJA:=hJ.later hBA
 have HJ:=hid hJA
 have HN:=hid hn
 have HX:=hid hX
 have HA:Hid (FrS (s0+2) W v A v):=.of_below hBA
 have HB0:Hid (Below s0 w0 A):=hB0.trans (hBA.mono (by have:=hB0.size;omega))
 obtain ⟨av,capv,ev⟩:∃ av capv,v=.slice av L.length capv:=by
  rcases hJ.2.1.2 with ⟨e1,e2⟩ | ⟨g,cap,cur,e,_⟩
  · exact ⟨none,0,by rw [e1,e2]⟩
  · exact ⟨_,cap,e⟩
 have cl:=hJA.1.cell
 have hlen:=hX.len
 have hlow:=hJ.2.2.2.lt
 have hgv:∀ g,v.ownBlock=some g→s0+4≤g∧g < W.heap.size:=hJ.own
 rw [ev] at cl
 clear hJ hJA hX hBA hn
 refine callsIn_of_wp Tryz.func88 rfl trivial ?_ rfl
 simp only [Tryz.ntmps88,List.size_toArray,List.length_cons,List.length_nil,Nat.reduceAdd,Nat.reduceSub,Array.replicate_succ,Array.replicate_zero,List.push_toArray,List.append_toArray,List.nil_append,List.cons_append]
 obtain ⟨-,-,-,-,-,c5⟩:=HN.out.at0
 gi_wp2
 gi_loopw [13] (fun u wr=>∃ (k:Nat) (vk:Value),k≤x.n∧u=.int .i64 k∧Hid (FrJ s0 s (L ++ frN (fun i=>frP s (x.c i)) (hitF s x) (preF x) k) wr vk)∧Hid (FrS (s0+2) A v wr vk)) (fun u _=>x.n - (intOf u).toNat)
 case atStart=>exact ⟨0,v,Nat.zero_le _,rfl,by simpa [frN,Hid] using HJ.out,FrS.refl _ _ _⟩
 case round =>
  obtain ⟨k,vk,hk,rfl,HJk,HSk⟩:=hrel
  by_cases hkn:k < x.n
  · obtain ⟨F,hF⟩:∃ F:Nat→List Pt,F=frN (fun i=>frP s (x.c i)) (hitF s x) (preF x):=⟨_,rfl⟩
    have hF1:F (k+1)=F k ++ ((if hitF s x k && (F k).isEmpty then [preF x k] else []) ++ frP s (x.c k)):=by rw [hF];rfl
    have hFl:(F k).length+(x.c k).size < x.size:=by
     have h1:=frN_len (g:=fun i=>frP s (x.c i)) (hit:=hitF s x) (f:=preF x) (z:=fun i=>(x.c i).size) (fun i=>frP_len s (x.c i)) k
     have h2:=sumN_part (f:=fun i=>(x.c i).size) hkn
     rw [hF,x.size_eq]
     omega
    rw [← hF] at HJk ⊢
    clear hF
    have hBr:Below s0 w0 wr:=HB0.out.trans (HSk.out.below (by omega) (by omega) fun g hg=>by have:=hgv g hg;omega)
    have hgk:∀ g,vk.ownBlock=some g→s0+4≤g∧g < wr.heap.size:=HJk.out.own
    have hsA:=HSk.out.size
    have hnr:NodeP wr W.heap.size 0 x:=HN.out.of fun j _=>World.cell?_of_block (w:=A) (w':=wr) (HSk.out.keep W.heap.size (by omega) (by omega) fun e=>by have:=hgv _ e.symm;omega)
    obtain ⟨b1,o1,ea,hn1,-⟩:=(HX.out.later (w':=wr) (by rw [hw0];exact hBr)).part hkn
    have hx1:IsP w0 (x.c k):=(HX.out.part hkn).elim fun _ h=>h.elim fun _ h=>h.2.2
    obtain ⟨C,V,hC,hCb,hCV,hCB,hCn,hCs⟩:=boxP_put (x.c k) wr
    obtain ⟨⟨g0,g1,g2,g3,g4,g5⟩,f0,f1,f2,f3,f4,f5⟩:=zero_cells hCb
    have HJV:Hid (FrJ s0 s (L ++ F k) V vk):=HJk.out.later hCB
    have HSV:Hid (FrS (s0+2) A v V vk):=HSk.out.trans (.of_below hCB)
    have HBV:Hid (Below s0 w0 V):=hBr.trans (hCB.mono (by have:=hBr.size;omega))
    obtain ⟨m,hm⟩:∃ m,m=(L ++ F k).length:=⟨_,rfl⟩
    have HM:=hid hm
    obtain ⟨ak,capk,evk⟩:∃ ak capk,vk=.slice ak m capk:=by
     rcases HJk.out.2.1.2 with ⟨e1,e2⟩ | ⟨g,cap,cur,e,_⟩
     · exact ⟨none,0,by rw [e1,hm,e2]⟩
     · exact ⟨_,cap,by rw [hm];exact e⟩
    clear hm
    obtain ⟨e0,e1,e2,e3,e4,e5⟩:=hnr.at0
    obtain ⟨i0,i1,i2,i3,i4,i5⟩:=(hnr.later hCB).at0
    obtain ⟨c0,c1,c2,c3,c4,c5'⟩:=hn1
    obtain ⟨j0,j1,j2,j3,j4,j5⟩:=hCn.at0
    rw [ea] at e5 i5 ⊢
    have cV:=HJV.out.2.2.1.cell
    have cD:=HJV.out.2.2.2.cell
    have cL:=HJV.out.1.cell
    rw [evk] at cL
    have HKN:=hid hkn
    have HCN:=hid hCn
    have HGK:=hid hgk
    have HCS:=hid hCs
    have HF1:=hid hF1
    have hlw:s0+3 < wr.heap.size:=by omega
    have HEV:=hid evk
    clear hCb hCn i1 i2 i3 i4 e0 e1 e2 e3 e4 hF1 hnr hgk hBr hCB hCs cl evk hgv
    by_cases hh:(hitF s x k && (F k).isEmpty)=true
    · obtain ⟨hh1,hh2⟩:=Bool.and_eq_true_iff.1 hh
      have hF0:F k=[]:=List.isEmpty_iff.1 hh2
      have hf:F (k+1)=[preF x k] ++ frP s (x.c k):=by rw [HF1.out,if_pos hh,hF0];rfl
      simp only [hitF,Bool.and_eq_true,decide_eq_true_eq] at hh1
      obtain ⟨h2,h6,hsv⟩:=hh1
      obtain ⟨v',w1,hrun,hb1,hJ1,hS1⟩:=FrJ.push (W:=V.drew) HJV.out (by rw [List.length_append];omega) (preF x k)
      obtain ⟨a',m',cap',rfl⟩:∃ a' m' cap',v'=.slice a' m' cap':=by
       rcases hJ1.2.1.2 with ⟨e1,_⟩ | ⟨g,cap,cur,e,_⟩
       · exact ⟨_,_,_,e1⟩
       · exact ⟨_,_,_,e⟩
      obtain ⟨Z,hZ⟩:∃ Z,w1.setCell ⟨s0+2,0,none⟩ (.slice a' m' cap')=Z:=⟨_,rfl⟩
      rw [hZ] at hJ1 hS1
      have hsz7:(L ++ F k ++ [preF x k]).length+(x.c k).size≤1048576:=by rw [hF0];simp;rw [hF0] at hFl;simp at hFl;omega
      have hnZ:NodeP Z wr.heap.size 0 (x.c k):=HCN.out.of fun j _=>World.cell?_of_block (w:=V) (w':=Z) (hS1.keep wr.heap.size (by show _ < V.heap.size;have:=HCS.out;omega) (by omega) fun e=>by have:=(HGK.out _ e.symm).2;omega)
      have hBZ:Below s0 w0 Z:=(HBV.out.drew).trans (hS1.below (by show s0≤V.heap.size;have:=HCS.out;omega) (by omega) fun g hg=>by have:=(HGK.out g hg).1;omega)
      have C7:=ih k hkn (n - 1) (L ++ F k ++ [preF x k]) Z _ hx1 hBZ hsz7 hJ1
      have fin:∀ W3 v3,FrJ s0 s (L ++ F k ++ [preF x k] ++ frP s (x.c k)) W3 v3→FrS (s0+2) Z (.slice a' m' cap') W3 v3→Hid (FrJ s0 s (L ++ F (k+1)) W3 v3)∧Hid (FrS (s0+2) A v W3 v3):=fun W3 v3 q1 q2=>by
       refine ⟨?_,(HSV.out.trans (show FrS (s0+2) V vk Z (.slice a' m' cap') from ⟨hS1.os,hS1.tape,hS1.output,hS1.size,hS1.keep,hS1.blk⟩)).trans q2⟩
       rw [hf,← List.append_assoc]
       rw [hF0,List.append_nil] at q1
       exact q1
      have t2:(x.k == 2)=true:=by simp [h2]
      have t6:((x.c k).k == 6)=true:=by simp [h6]
      have ts:=str_yes hsv
      have tl:((m:Int) == (L.length:Int))=true:=by rw [HM.out,hF0];simp
      have cD':=hJ1.2.2.2.cell
      obtain ⟨l0,l1,l2,l3,l4,l5⟩:=hnZ.at0
      have cL':=(HJV.out.1.alloc (.cells #[.slice (some ⟨b1,o1,none⟩) k x.cap] 23)).cell
      rw [HEV.out] at cL'
      have hb1c:=hb1.cell
      have hb1f:=hb1.frozen
      have hcap:k≤x.cap:=by have:=((isP_eq _ _).1 HX.out).1;have:=HKN.out;omega
      rw [HEV.out] at hrun hb1c
      have hrun':(Builtin.append_ #[78,78] 78 #[.slice ak m capk,.slice (some ⟨V.heap.size,0,none⟩) 1 1]).run Tryz.prog (V.drew.alloc (.cells #[.slice (some ⟨b1,o1,none⟩) k x.cap] 23))=.ok (.slice a' m' cap') w1:=by
       rw [← ea];exact hrun
      clear ih hf hh hh2 h2 h6 hsv hJ1 hS1 hnZ hBZ hF0 hrun
      gi_wp2
      refine wpIn_mono (Q:=Exit.then (fun ac wc=>ac={ tmps:=#[x.val,.pointer (some ⟨s0+2,0,none⟩),.pointer (some ⟨s0+1,0,none⟩),.pointer (some ⟨s0+3,0,none⟩),.pointer (some ⟨W.heap.size,0,none⟩),.int .i64 (L.length:Nat),.int .i64 (k:Nat),.pointer (some ⟨wr.heap.size,0,none⟩),.slice av L.length capv,.int .i64 (L.length:Nat),.pointer (some ⟨W.heap.size,5,none⟩),.slice (some ⟨b1,o1,none⟩) x.n x.cap,.int .i64 (x.n:Nat),.int .i64 (k:Nat),.bool true,.int .i64 (k:Nat),.pointer (some ⟨b1,o1+k * 6,none⟩),(x.c k).val,.pointer (some ⟨W.heap.size,0,none⟩),.int .i64 x.k,.bool true,.bool true,.pointer (some ⟨wr.heap.size,0,none⟩),.int .i64 (x.c k).k,.bool true,.bool true,.bool true,.pointer (some ⟨wr.heap.size,1,none⟩),.string (x.c k).s,.string s,.bool true,.bool true,.bool true,.slice ak m capk,.int .i64 (m:Nat),.int .i64 (L.length:Nat),.bool true,.bool true,.slice ak m capk,.pointer (some ⟨W.heap.size,5,none⟩),.slice (some ⟨b1,o1,none⟩) x.n x.cap,.int .i64 (k:Nat),.slice (some ⟨b1,o1,none⟩) k x.cap,.slice (some ⟨V.heap.size,0,none⟩) 1 1,.slice a' m' cap',u45,u46,u47,u48],defers:=[] }∧wc=Z) (fun _ _ _=>False)) ?_ ?_
      ·
       refine wpIn_region_any (by kernel_rfl) ?_
       try (change wpAnyIn _ _ _ _ _ _ _ _ _ (World.drew _))
       refine wpAnyIn_ready (rs:=[0,1,3]) (by kernel_rfl) (by simp) ?_
       refine AllReadyIn.cons rfl (fun K hK=>?_) ?_
       · go_simp
         refine hK _ _ ?_
         clear hK K
         refine wpAnyIn_ready (rs:=[1,3]) (by kernel_rfl) (by simp) ?_
         refine AllReadyIn.cons rfl (fun K hK=>?_) ?_
         · go_simp
           refine hK _ _ ?_
           clear hK K
           refine wpAnyIn_ready (rs:=[2,3]) (by kernel_rfl) (by simp) ?_
           refine AllReadyIn.cons rfl (fun K hK=>?_) ?_
           · go_simp
             refine hK _ _ ?_
             clear hK K
             refine ri 3 fun K hK=>?_
             go_simp
             refine hK _ _ ?_
             clear hK K
             refine ri 4 fun K hK=>?_
             go_simp
             refine hK _ _ ?_
             clear hK K
             refine ri 5 fun K hK=>?_
             go_simp
             refine hK _ _ ?_
             clear hK K
             refine ri 6 fun K hK=>?_
             rw [if_pos (by rfl)]
             refine wpOpIn_append_run (.tmp 38) (.tmp 43) 78 rfl _ _ _ rfl rfl hrun' ?_
             refine hK _ _ ?_
             clear hK K
             refine ri 7 fun K hK=>?_
             go_simp
             refine hK _ _ ?_
             clear hK K
             refine wpAnyIn_done (by kernel_rfl) ?_ _
             exact ⟨rfl,rfl⟩
           refine AllReadyIn.cons rfl (fun K hK=>?_) AllReadyIn.nil
           go_simp
           refine hK _ _ ?_
           clear hK K
           refine ri 2 fun K hK=>?_
           go_simp
           refine hK _ _ ?_
           clear hK K
           refine ri 4 fun K hK=>?_
           go_simp
           refine hK _ _ ?_
           clear hK K
           refine ri 5 fun K hK=>?_
           go_simp
           refine hK _ _ ?_
           clear hK K
           refine ri 6 fun K hK=>?_
           rw [if_pos (by rfl)]
           refine wpOpIn_append_run (.tmp 38) (.tmp 43) 78 rfl _ _ _ rfl rfl hrun' ?_
           refine hK _ _ ?_
           clear hK K
           refine ri 7 fun K hK=>?_
           go_simp
           refine hK _ _ ?_
           clear hK K
           refine wpAnyIn_done (by kernel_rfl) ?_ _
           exact ⟨rfl,rfl⟩
         refine AllReadyIn.cons rfl (fun K hK=>?_) AllReadyIn.nil
         go_simp
         refine hK _ _ ?_
         clear hK K
         refine ri 1 fun K hK=>?_
         go_simp
         refine hK _ _ ?_
         clear hK K
         refine ri 2 fun K hK=>?_
         go_simp
         refine hK _ _ ?_
         clear hK K
         refine ri 4 fun K hK=>?_
         go_simp
         refine hK _ _ ?_
         clear hK K
         refine ri 5 fun K hK=>?_
         go_simp
         refine hK _ _ ?_
         clear hK K
         refine ri 6 fun K hK=>?_
         rw [if_pos (by rfl)]
         refine wpOpIn_append_run (.tmp 38) (.tmp 43) 78 rfl _ _ _ rfl rfl hrun' ?_
         refine hK _ _ ?_
         clear hK K
         refine ri 7 fun K hK=>?_
         go_simp
         refine hK _ _ ?_
         clear hK K
         refine wpAnyIn_done (by kernel_rfl) ?_ _
         exact ⟨rfl,rfl⟩
       refine AllReadyIn.cons rfl (fun K hK=>?_) ?_
       · go_simp
         refine hK _ _ ?_
         clear hK K
         refine wpAnyIn_ready (rs:=[0,2,3]) (by kernel_rfl) (by simp) ?_
         refine AllReadyIn.cons rfl (fun K hK=>?_) ?_
         · go_simp
           refine hK _ _ ?_
           clear hK K
           refine wpAnyIn_ready (rs:=[2,3]) (by kernel_rfl) (by simp) ?_
           refine AllReadyIn.cons rfl (fun K hK=>?_) ?_
           · go_simp
             refine hK _ _ ?_
             clear hK K
             refine ri 3 fun K hK=>?_
             go_simp
             refine hK _ _ ?_
             clear hK K
             refine ri 4 fun K hK=>?_
             go_simp
             refine hK _ _ ?_
             clear hK K
             refine ri 5 fun K hK=>?_
             go_simp
             refine hK _ _ ?_
             clear hK K
             refine ri 6 fun K hK=>?_
             rw [if_pos (by rfl)]
             refine wpOpIn_append_run (.tmp 38) (.tmp 43) 78 rfl _ _ _ rfl rfl hrun' ?_
             refine hK _ _ ?_
             clear hK K
             refine ri 7 fun K hK=>?_
             go_simp
             refine hK _ _ ?_
             clear hK K
             refine wpAnyIn_done (by kernel_rfl) ?_ _
             exact ⟨rfl,rfl⟩
           refine AllReadyIn.cons rfl (fun K hK=>?_) AllReadyIn.nil
           go_simp
           refine hK _ _ ?_
           clear hK K
           refine ri 2 fun K hK=>?_
           go_simp
           refine hK _ _ ?_
           clear hK K
           refine ri 4 fun K hK=>?_
           go_simp
           refine hK _ _ ?_
           clear hK K
           refine ri 5 fun K hK=>?_
           go_simp
           refine hK _ _ ?_
           clear hK K
           refine ri 6 fun K hK=>?_
           rw [if_pos (by rfl)]
           refine wpOpIn_append_run (.tmp 38) (.tmp 43) 78 rfl _ _ _ rfl rfl hrun' ?_
           refine hK _ _ ?_
           clear hK K
           refine ri 7 fun K hK=>?_
           go_simp
           refine hK _ _ ?_
           clear hK K
           refine wpAnyIn_done (by kernel_rfl) ?_ _
           exact ⟨rfl,rfl⟩
         refine AllReadyIn.cons rfl (fun K hK=>?_) ?_
         · go_simp
           refine hK _ _ ?_
           clear hK K
           refine wpAnyIn_ready (rs:=[0,3]) (by kernel_rfl) (by simp) ?_
           refine AllReadyIn.cons rfl (fun K hK=>?_) ?_
           · go_simp
             refine hK _ _ ?_
             clear hK K
             refine ri 3 fun K hK=>?_
             go_simp
             refine hK _ _ ?_
             clear hK K
             refine ri 4 fun K hK=>?_
             go_simp
             refine hK _ _ ?_
             clear hK K
             refine ri 5 fun K hK=>?_
             go_simp
             refine hK _ _ ?_
             clear hK K
             refine ri 6 fun K hK=>?_
             rw [if_pos (by rfl)]
             refine wpOpIn_append_run (.tmp 38) (.tmp 43) 78 rfl _ _ _ rfl rfl hrun' ?_
             refine hK _ _ ?_
             clear hK K
             refine ri 7 fun K hK=>?_
             go_simp
             refine hK _ _ ?_
             clear hK K
             refine wpAnyIn_done (by kernel_rfl) ?_ _
             exact ⟨rfl,rfl⟩
           refine AllReadyIn.cons rfl (fun K hK=>?_) AllReadyIn.nil
           go_simp
           refine hK _ _ ?_
           clear hK K
           refine wpAnyIn_ready (rs:=[0,4]) (by kernel_rfl) (by simp) ?_
           refine AllReadyIn.cons rfl (fun K hK=>?_) ?_
           · go_simp
             refine hK _ _ ?_
             clear hK K
             refine ri 4 fun K hK=>?_
             go_simp
             refine hK _ _ ?_
             clear hK K
             refine ri 5 fun K hK=>?_
             go_simp
             refine hK _ _ ?_
             clear hK K
             refine ri 6 fun K hK=>?_
             rw [if_pos (by rfl)]
             refine wpOpIn_append_run (.tmp 38) (.tmp 43) 78 rfl _ _ _ rfl rfl hrun' ?_
             refine hK _ _ ?_
             clear hK K
             refine ri 7 fun K hK=>?_
             go_simp
             refine hK _ _ ?_
             clear hK K
             refine wpAnyIn_done (by kernel_rfl) ?_ _
             exact ⟨rfl,rfl⟩
           refine AllReadyIn.cons rfl (fun K hK=>?_) AllReadyIn.nil
           go_simp
           refine hK _ _ ?_
           clear hK K
           refine wpAnyIn_ready (rs:=[0,5]) (by kernel_rfl) (by simp) ?_
           refine AllReadyIn.cons rfl (fun K hK=>?_) ?_
           · go_simp
             refine hK _ _ ?_
             clear hK K
             refine ri 5 fun K hK=>?_
             go_simp
             refine hK _ _ ?_
             clear hK K
             refine ri 6 fun K hK=>?_
             rw [if_pos (by rfl)]
             refine wpOpIn_append_run (.tmp 38) (.tmp 43) 78 rfl _ _ _ rfl rfl hrun' ?_
             refine hK _ _ ?_
             clear hK K
             refine ri 7 fun K hK=>?_
             go_simp
             refine hK _ _ ?_
             clear hK K
             refine wpAnyIn_done (by kernel_rfl) ?_ _
             exact ⟨rfl,rfl⟩
           refine AllReadyIn.cons rfl (fun K hK=>?_) AllReadyIn.nil
           go_simp
           refine hK _ _ ?_
           clear hK K
           refine ri 0 fun K hK=>?_
           go_simp
           refine hK _ _ ?_
           clear hK K
           refine ri 6 fun K hK=>?_
           rw [if_pos (by rfl)]
           refine wpOpIn_append_run (.tmp 38) (.tmp 43) 78 rfl _ _ _ rfl rfl hrun' ?_
           refine hK _ _ ?_
           clear hK K
           refine ri 7 fun K hK=>?_
           go_simp
           refine hK _ _ ?_
           clear hK K
           refine wpAnyIn_done (by kernel_rfl) ?_ _
           exact ⟨rfl,rfl⟩
         refine AllReadyIn.cons rfl (fun K hK=>?_) AllReadyIn.nil
         go_simp
         refine hK _ _ ?_
         clear hK K
         refine wpAnyIn_ready (rs:=[0,2]) (by kernel_rfl) (by simp) ?_
         refine AllReadyIn.cons rfl (fun K hK=>?_) ?_
         · go_simp
           refine hK _ _ ?_
           clear hK K
           refine ri 2 fun K hK=>?_
           go_simp
           refine hK _ _ ?_
           clear hK K
           refine ri 4 fun K hK=>?_
           go_simp
           refine hK _ _ ?_
           clear hK K
           refine ri 5 fun K hK=>?_
           go_simp
           refine hK _ _ ?_
           clear hK K
           refine ri 6 fun K hK=>?_
           rw [if_pos (by rfl)]
           refine wpOpIn_append_run (.tmp 38) (.tmp 43) 78 rfl _ _ _ rfl rfl hrun' ?_
           refine hK _ _ ?_
           clear hK K
           refine ri 7 fun K hK=>?_
           go_simp
           refine hK _ _ ?_
           clear hK K
           refine wpAnyIn_done (by kernel_rfl) ?_ _
           exact ⟨rfl,rfl⟩
         refine AllReadyIn.cons rfl (fun K hK=>?_) AllReadyIn.nil
         go_simp
         refine hK _ _ ?_
         clear hK K
         refine wpAnyIn_ready (rs:=[0,4]) (by kernel_rfl) (by simp) ?_
         refine AllReadyIn.cons rfl (fun K hK=>?_) ?_
         · go_simp
           refine hK _ _ ?_
           clear hK K
           refine ri 4 fun K hK=>?_
           go_simp
           refine hK _ _ ?_
           clear hK K
           refine ri 5 fun K hK=>?_
           go_simp
           refine hK _ _ ?_
           clear hK K
           refine ri 6 fun K hK=>?_
           rw [if_pos (by rfl)]
           refine wpOpIn_append_run (.tmp 38) (.tmp 43) 78 rfl _ _ _ rfl rfl hrun' ?_
           refine hK _ _ ?_
           clear hK K
           refine ri 7 fun K hK=>?_
           go_simp
           refine hK _ _ ?_
           clear hK K
           refine wpAnyIn_done (by kernel_rfl) ?_ _
           exact ⟨rfl,rfl⟩
         refine AllReadyIn.cons rfl (fun K hK=>?_) AllReadyIn.nil
         go_simp
         refine hK _ _ ?_
         clear hK K
         refine wpAnyIn_ready (rs:=[0,5]) (by kernel_rfl) (by simp) ?_
         refine AllReadyIn.cons rfl (fun K hK=>?_) ?_
         · go_simp
           refine hK _ _ ?_
           clear hK K
           refine ri 5 fun K hK=>?_
           go_simp
           refine hK _ _ ?_
           clear hK K
           refine ri 6 fun K hK=>?_
           rw [if_pos (by rfl)]
           refine wpOpIn_append_run (.tmp 38) (.tmp 43) 78 rfl _ _ _ rfl rfl hrun' ?_
           refine hK _ _ ?_
           clear hK K
           refine ri 7 fun K hK=>?_
           go_simp
           refine hK _ _ ?_
           clear hK K
           refine wpAnyIn_done (by kernel_rfl) ?_ _
           exact ⟨rfl,rfl⟩
         refine AllReadyIn.cons rfl (fun K hK=>?_) AllReadyIn.nil
         go_simp
         refine hK _ _ ?_
         clear hK K
         refine ri 0 fun K hK=>?_
         go_simp
         refine hK _ _ ?_
         clear hK K
         refine ri 6 fun K hK=>?_
         rw [if_pos (by rfl)]
         refine wpOpIn_append_run (.tmp 38) (.tmp 43) 78 rfl _ _ _ rfl rfl hrun' ?_
         refine hK _ _ ?_
         clear hK K
         refine ri 7 fun K hK=>?_
         go_simp
         refine hK _ _ ?_
         clear hK K
         refine wpAnyIn_done (by kernel_rfl) ?_ _
         exact ⟨rfl,rfl⟩
       refine AllReadyIn.cons rfl (fun K hK=>?_) AllReadyIn.nil
       go_simp
       refine hK _ _ ?_
       clear hK K
       refine wpAnyIn_ready (rs:=[0,1]) (by kernel_rfl) (by simp) ?_
       refine AllReadyIn.cons rfl (fun K hK=>?_) ?_
       · go_simp
         refine hK _ _ ?_
         clear hK K
         refine ri 1 fun K hK=>?_
         go_simp
         refine hK _ _ ?_
         clear hK K
         refine ri 2 fun K hK=>?_
         go_simp
         refine hK _ _ ?_
         clear hK K
         refine ri 4 fun K hK=>?_
         go_simp
         refine hK _ _ ?_
         clear hK K
         refine ri 5 fun K hK=>?_
         go_simp
         refine hK _ _ ?_
         clear hK K
         refine ri 6 fun K hK=>?_
         rw [if_pos (by rfl)]
         refine wpOpIn_append_run (.tmp 38) (.tmp 43) 78 rfl _ _ _ rfl rfl hrun' ?_
         refine hK _ _ ?_
         clear hK K
         refine ri 7 fun K hK=>?_
         go_simp
         refine hK _ _ ?_
         clear hK K
         refine wpAnyIn_done (by kernel_rfl) ?_ _
         exact ⟨rfl,rfl⟩
       refine AllReadyIn.cons rfl (fun K hK=>?_) AllReadyIn.nil
       go_simp
       refine hK _ _ ?_
       clear hK K
       refine wpAnyIn_ready (rs:=[0,2]) (by kernel_rfl) (by simp) ?_
       refine AllReadyIn.cons rfl (fun K hK=>?_) ?_
       · go_simp
         refine hK _ _ ?_
         clear hK K
         refine ri 2 fun K hK=>?_
         go_simp
         refine hK _ _ ?_
         clear hK K
         refine ri 4 fun K hK=>?_
         go_simp
         refine hK _ _ ?_
         clear hK K
         refine ri 5 fun K hK=>?_
         go_simp
         refine hK _ _ ?_
         clear hK K
         refine ri 6 fun K hK=>?_
         rw [if_pos (by rfl)]
         refine wpOpIn_append_run (.tmp 38) (.tmp 43) 78 rfl _ _ _ rfl rfl hrun' ?_
         refine hK _ _ ?_
         clear hK K
         refine ri 7 fun K hK=>?_
         go_simp
         refine hK _ _ ?_
         clear hK K
         refine wpAnyIn_done (by kernel_rfl) ?_ _
         exact ⟨rfl,rfl⟩
       refine AllReadyIn.cons rfl (fun K hK=>?_) AllReadyIn.nil
       go_simp
       refine hK _ _ ?_
       clear hK K
       refine wpAnyIn_ready (rs:=[0,4]) (by kernel_rfl) (by simp) ?_
       refine AllReadyIn.cons rfl (fun K hK=>?_) ?_
       · go_simp
         refine hK _ _ ?_
         clear hK K
         refine ri 4 fun K hK=>?_
         go_simp
         refine hK _ _ ?_
         clear hK K
         refine ri 5 fun K hK=>?_
         go_simp
         refine hK _ _ ?_
         clear hK K
         refine ri 6 fun K hK=>?_
         rw [if_pos (by rfl)]
         refine wpOpIn_append_run (.tmp 38) (.tmp 43) 78 rfl _ _ _ rfl rfl hrun' ?_
         refine hK _ _ ?_
         clear hK K
         refine ri 7 fun K hK=>?_
         go_simp
         refine hK _ _ ?_
         clear hK K
         refine wpAnyIn_done (by kernel_rfl) ?_ _
         exact ⟨rfl,rfl⟩
       refine AllReadyIn.cons rfl (fun K hK=>?_) AllReadyIn.nil
       go_simp
       refine hK _ _ ?_
       clear hK K
       refine wpAnyIn_ready (rs:=[0,5]) (by kernel_rfl) (by simp) ?_
       refine AllReadyIn.cons rfl (fun K hK=>?_) ?_
       · go_simp
         refine hK _ _ ?_
         clear hK K
         refine ri 5 fun K hK=>?_
         go_simp
         refine hK _ _ ?_
         clear hK K
         refine ri 6 fun K hK=>?_
         rw [if_pos (by rfl)]
         refine wpOpIn_append_run (.tmp 38) (.tmp 43) 78 rfl _ _ _ rfl rfl hrun' ?_
         refine hK _ _ ?_
         clear hK K
         refine ri 7 fun K hK=>?_
         go_simp
         refine hK _ _ ?_
         clear hK K
         refine wpAnyIn_done (by kernel_rfl) ?_ _
         exact ⟨rfl,rfl⟩
       refine AllReadyIn.cons rfl (fun K hK=>?_) AllReadyIn.nil
       go_simp
       refine hK _ _ ?_
       clear hK K
       refine ri 0 fun K hK=>?_
       go_simp
       refine hK _ _ ?_
       clear hK K
       refine ri 6 fun K hK=>?_
       rw [if_pos (by rfl)]
       refine wpOpIn_append_run (.tmp 38) (.tmp 43) 78 rfl _ _ _ rfl rfl hrun' ?_
       refine hK _ _ ?_
       clear hK K
       refine ri 7 fun K hK=>?_
       go_simp
       refine hK _ _ ?_
       clear hK K
       refine wpAnyIn_done (by kernel_rfl) ?_ _
       exact ⟨rfl,rfl⟩
      · rintro e ac wc h
        cases e with
        | normal =>
          obtain ⟨rfl,rfl⟩:=h
          gi_wp2_with (refine ⟨trivial,hdd _,?_⟩;gi_at_call 88;refine C7.mono ?_;clear C7;rintro e W3 ⟨⟨u,rfl⟩,v3,hJ3,hS3⟩)
          exact ⟨⟨k+1,v3,HKN.out,by simp,fin _ _ hJ3 hS3⟩,by have:=HKN.out;simp [intOf];omega⟩
        | ret=>exact h.elim
        | exit id=>exact h.elim
        | goto t=>exact h.elim
        | panic ch=>exact h.elim
        | outgrown=>exact h.elim
    · have hf:F (k+1)=F k ++ frP s (x.c k):=by rw [HF1.out,if_neg hh];rfl
      have C7:=ih k hkn (n - 1) (L ++ F k) V vk hx1 HBV.out (by rw [List.length_append];omega) HJV.out
      have fin:∀ W3 v3,FrJ s0 s (L ++ F k ++ frP s (x.c k)) W3 v3→FrS (s0+2) V vk W3 v3→Hid (FrJ s0 s (L ++ F (k+1)) W3 v3)∧Hid (FrS (s0+2) A v W3 v3):=fun W3 v3 q1 q2=>⟨by rw [hf,← List.append_assoc];exact q1,HSV.out.trans q2⟩
      have HH:=hid hh
      clear ih hf hh
      by_cases h2:x.k=2
      · have t2:(x.k == 2)=true:=by simp [h2]
        by_cases h6:(x.c k).k=6
        · have t6:((x.c k).k == 6)=true:=by simp [h6]
          by_cases hsv:(x.c k).s=s
          · have ts:=str_yes hsv
            have tl:((m:Int) == (L.length:Int))=false:=by
             have hne:F k ≠ []:=fun e=>HH.out (by simp [hitF,h2,h6,hsv,e])
             have:=List.length_pos_iff.2 hne
             rw [HM.out,List.length_append]
             simp
             omega
            clear h2 h6 hsv
            gi_wp2_with (refine ⟨trivial,hdd _,?_⟩;gi_at_call 88;refine C7.mono ?_;clear C7;rintro e W3 ⟨⟨u,rfl⟩,v3,hJ3,hS3⟩)
            exact ⟨⟨k+1,v3,HKN.out,by simp,fin _ _ hJ3 hS3⟩,by have:=HKN.out;simp [intOf];omega⟩
          · have ts:=str_not hsv
            clear h2 h6 hsv
            gi_wp2_with (refine ⟨trivial,hdd _,?_⟩;gi_at_call 88;refine C7.mono ?_;clear C7;rintro e W3 ⟨⟨u,rfl⟩,v3,hJ3,hS3⟩)
            exact ⟨⟨k+1,v3,HKN.out,by simp,fin _ _ hJ3 hS3⟩,by have:=HKN.out;simp [intOf];omega⟩
        · have t6:((x.c k).k == 6)=false:=by simp [h6]
          clear h2 h6
          gi_wp2_with (refine ⟨trivial,hdd _,?_⟩;gi_at_call 88;refine C7.mono ?_;clear C7;rintro e W3 ⟨⟨u,rfl⟩,v3,hJ3,hS3⟩)
          exact ⟨⟨k+1,v3,HKN.out,by simp,fin _ _ hJ3 hS3⟩,by have:=HKN.out;simp [intOf];omega⟩
      · have t2:(x.k == 2)=false:=by simp [h2]
        clear h2
        gi_wp2_with (refine ⟨trivial,hdd _,?_⟩;gi_at_call 88;refine C7.mono ?_;clear C7;rintro e W3 ⟨⟨u,rfl⟩,v3,hJ3,hS3⟩)
        exact ⟨⟨k+1,v3,HKN.out,by simp,fin _ _ hJ3 hS3⟩,by have:=HKN.out;simp [intOf];omega⟩
  · have hk':k=x.n:=by omega
    subst hk'
    gi_wp2
    go_end0
    exact ⟨⟨_,rfl⟩,vk,by rw [frP_eq];exact HJk.out,HA.out.trans HSk.out⟩
theorem fronts_in (n:Nat) (x:Pt) (s:ByteArray) (w:World) (hX:IsP w x) (hsm:x.size≤1048576) :
 CallsIn Fence.wide n Tryz.prog 34 #[x.val,.string s] w fun e w'=>∃ v,e=.returned v∧w'.ownsRow w.heap.size 23 1 v (frP s x).length (cellsF (frP s x))∧Below w.heap.size w w':=by
 have hdd:∀ k:Nat,(Fence.wide.depth.isSome=true→1≤k):=fun k h=>by cases h
 obtain ⟨A,hA⟩:∃ A,(((w.alloc (.cells x.cells 25)).alloc (.cells #[.string s] 9)).alloc (.cells #[.slice none 0 0] 78)).alloc (.cells #[.nilFunc] 149)=A:=⟨_,rfl⟩
 have hsz:A.heap.size=w.heap.size+4:=by rw [← hA];simp
 have hB:Below w.heap.size w A:=by rw [← hA];exact (((nwB w _).alloc (by simp) _).alloc (by simp;omega) _).alloc (by simp;omega) _
 have hn:NodeP A w.heap.size 0 x:=by
  rw [← hA]
  exact (((nodeP_new w 25 x).later (nwB _ _)).later (nwB _ _)).later (nwB _ _)
 have hb1:Boxed A (w.heap.size+1) 9 (.string s):=by
  have:=((Boxed.new (w.alloc (.cells x.cells 25)) 9 (.string s)).alloc (.cells #[.slice none 0 0] 78)).alloc (.cells #[.nilFunc] 149)
  rw [World.size_alloc,hA] at this
  exact this
 have hb2:Boxed A (w.heap.size+2) 78 (.slice none 0 0):=by
  have:=(Boxed.new ((w.alloc (.cells x.cells 25)).alloc (.cells #[.string s] 9)) 78 (.slice none 0 0)).alloc (.cells #[.nilFunc] 149)
  rw [World.size_alloc,World.size_alloc,hA] at this
  exact this
 have hb3:Boxed A (w.heap.size+3) 149 .nilFunc:=by
  have:=Boxed.new (((w.alloc (.cells x.cells 25)).alloc (.cells #[.string s] 9)).alloc (.cells #[.slice none 0 0] 78)) 149 .nilFunc
  rw [World.size_alloc,World.size_alloc,World.size_alloc,hA] at this
  exact this
 have c3:=hb3.cell
 have f3:=hb3.frozen
 obtain ⟨D,hD⟩:∃ D,A.setCell ⟨w.heap.size+3,0,none⟩ (frontV (w.heap.size+2) (w.heap.size+1) (w.heap.size+3))=D:=⟨_,rfl⟩
 have hBD:Below (w.heap.size+3) A D:=by rw [← hD];exact (Below.refl _ A).setCell (p:=⟨w.heap.size+3,0,none⟩) (Nat.le_refl _) _
 have hJ:FrJ w.heap.size s [] D (.slice none 0 0):=by
  rw [← hD]
  exact ⟨hb2.other (by omega) _,World.ownsRow_nil _ _ _ _,hb1.other (by omega) _,hb3.set _⟩
 have hBw:Below w.heap.size w D:=hB.trans (hBD.mono (by omega))
 have C:=front1_in w w.heap.size s rfl x (n - 1) [] D _ hX hBw (by simpa using hsm) hJ
 obtain ⟨d0,d1,d2,d3,d4,d5⟩:=(hn.below hBD (by omega)).at0
 have cD:=hJ.2.2.2.cell
 clear hJ hX hb1 hb2 hb3 hn
 refine callsIn_of_wp Tryz.func34 rfl trivial ?_ rfl
 simp only [Tryz.ntmps34,List.size_toArray,List.length_cons,List.length_nil,Nat.reduceAdd,Nat.reduceSub,Array.replicate_succ,Array.replicate_zero,List.push_toArray,List.append_toArray,List.nil_append,List.cons_append]
 gi_wp2_with (refine ⟨trivial,hdd _,?_⟩;gi_at_call 88;refine C.mono ?_;clear C;rintro e W3 ⟨⟨u,rfl⟩,v3,hJ3,hS3⟩;have cl:=hJ3.1.cell)
 go_ret
 have hsD:A.heap.size≤D.heap.size:=hBD.size
 refine ⟨_,rfl,?_,hBw.trans (hS3.below (by omega) (by omega) (fun g hg=>by simp [Value.ownBlock] at hg))⟩
 have h2:=hJ3.2.1
 refine ⟨h2.1,?_⟩
 rcases h2.2 with h1 | ⟨g,cap',cur,e,hg,hc,hr⟩
 · exact .inl h1
 · exact .inr ⟨g,cap',cur,e,by omega,hc,hr⟩
open Go.Maps Go.WideMaps Go.Sort
theorem keysI_any (mb:Option Nat) (W:World):Calls Tryz.prog 39 #[.map mb] W fun e w'=>e=.returned (.func (.func 93) #[] #[.pointer (some ⟨W.heap.size,0,none⟩)])∧w'=W.alloc (.cells #[.map mb] 80) :=
 (callsIn_wide (n:=5)).1 (AnyZ.keys_in Tryz.keys39 Fence.wide 5 trivial rfl mb W)
theorem sortedI_any {H:Type} (b nn:Nat) (D0:DataW H) (R:Value→Option (DataW H × List MemPlace)) (w:World) (hown:w.ownsMap Tryz.prog 9 R b nn D0) (hmax:Maps.size D0≤maxLen) (hbytes:Maps.size D0 * 16≤140737488355328) :
 Calls Tryz.prog 38 #[.func (.func 93) #[] #[.pointer (some ⟨w.heap.size,0,none⟩)]] (w.alloc (.cells #[.map (some b)] 80)) fun e w'=>∃ (v:Value) (ss:List (List UInt8)),e=.returned v∧ss.Perm (strKeys D0) ∧
  w'.ownsRow (w.alloc (.cells #[.map (some b)] 80)).heap.size 9 1 v ss.length ((sortB ss).map encStr)∧Below (w.alloc (.cells #[.map (some b)] 80)).heap.size (w.alloc (.cells #[.map (some b)] 80)) w':=by
 have hbl:=hown.lt
 have hseq:SeqGives Fence.wide 2 Tryz.prog 93 #[.pointer (some ⟨w.heap.size,0,none⟩)] encStr (fun ss=>ss.Perm (strKeys D0)) (Maps.size D0) (w.alloc (.cells #[.map (some b)] 80)) :=
  AnyZ.keys_gives (ρ:=Tryz.keys39_ren) { Tryz.keys39 with } Fence.wide _ trivial rfl (by omega) w.heap.size b nn D0 _ (by simp) (by simp) (by
   obtain ⟨es,clock,hb,Ft,hs,hD⟩:=hown
   exact ⟨es,clock,(Below.heap_alloc _ _ b hbl).trans hb,Ft,hs,hD⟩)
 refine ((callsIn_wide (n:=5)).1 (AnyZ.sorted_in Tryz.sorted38 Fence.wide 5 trivial trivial trivial trivial rfl (by omega) (sorts_wide _) (enters_of Tryz.func92 (by kernel_rfl) rfl) 93 #[.pointer (some ⟨w.heap.size,0,none⟩)] trivial (enters_of Tryz.func93 (by kernel_rfl) rfl) _ _ hmax hbytes _ hseq)).mono ?_
 rintro e w' ⟨v,ss,rfl,h1,h2,_,h3⟩
 exact ⟨v,ss,rfl,h1,h2,h3⟩
theorem sameKey_str {l:Lit} {s:ByteArray} (h:l.sameKey (keyS s)=true):l=keyS s:=by
 cases l <;> simp [Lit.sameKey] at h <;> simp [h]
theorem has_deleted {D:DataW Unit} (ht:Tidy D) (pd:Lit→DataW Unit→Bool) (s:ByteArray) (z:DataW Unit) :
 Maps.has (Lib.deleteFuncD pd D) (keyS s)=true ↔ Maps.has D (keyS s)=true∧pd (keyS s) (D.atKey (keyS s) z)=false:=by
 obtain ⟨es,rfl,hap⟩:=ht
 have one:∀ p ∈ es,p.1.sameKey (keyS s)=true→(DataW.map es).atKey (keyS s) z=p.2:=by
  intro p hp hk
  cases e:es.find? (fun p=>p.1.sameKey (keyS s)) with
  | none=>exact absurd hk (List.find?_eq_none.1 e p hp)
  | some p' =>
    have h1:=List.mem_of_find?_eq_some e
    have h2:=List.find?_some e
    have e1:=sameKey_str hk
    have e2:=sameKey_str h2
    have:p'=p:=by
     obtain ⟨i,hi,ei⟩:=List.getElem_of_mem h1
     obtain ⟨j,hj,ej⟩:=List.getElem_of_mem hp
     rw [List.pairwise_iff_getElem] at hap
     rcases Nat.lt_trichotomy i j with h | h | h
     · exact absurd (by rw [ei,ej,e1,e2]) (hap i j hi hj h)
     · subst h;rw [← ei,← ej]
     · exact absurd (by rw [ei,ej,e1,e2]) (hap j i hj hi h)
    simp only [DataW.atKey,e,this]
 show ((es.filter fun p=>!pd p.1 p.2).any fun p=>p.1.sameKey (keyS s))=true ↔ (es.any fun p=>p.1.sameKey (keyS s))=true∧_
 rw [List.any_eq_true,List.any_eq_true]
 constructor
 · rintro ⟨p,hp,hk⟩
   obtain ⟨h1,h2⟩:=List.mem_filter.1 hp
   refine ⟨⟨p,h1,hk⟩,?_⟩
   rw [one p h1 hk,← sameKey_str hk]
   simpa using h2
 · rintro ⟨⟨p,hp,hk⟩,hd⟩
   rw [one p hp hk,← sameKey_str hk] at hd
   exact ⟨p,List.mem_filter.2 ⟨hp,by simp [hd]⟩,hk⟩
end Go.Proofs.YtkfpgkohkhhlhaaGreatDoor
