/- Texts that the last one stands on. -/
import Derived.Test.YtkfpgkohkhhlhaaGreatDoorHWlFronts
set_option maxRecDepth 100000
set_option maxHeartbeats 8000000
namespace Go.Proofs.YtkfpgkohkhhlhaaGreatDoor
open Go.RowKit Go.Shelf Go.Maps Go.WideMaps Go.Sort
attribute [local go_sem] Oper.semAt_some
theorem frA_is {w:World} {s:ByteArray}:∀ {x:Pt},IsP w x→POk x→∀ f ∈ frA s x,IsP w f∧(∀ i,i < f.n→POk (f.c i))∧f.size≤x.size:=by
 refine @(Pt.ind fun x ih hX hok f hf=>?_)
 obtain ⟨h1,h2,h3⟩:=(isP_eq w x).1 hX
 have ho:=((pOk_eq x).1 hok).2.2
 obtain ⟨i,hi,h | h⟩:=mem_frA.1 hf
 · rw [h.2]
   refine ⟨(isP_eq w _).2 ⟨?_,h2,fun j hj=>h3 j (Nat.lt_trans hj hi)⟩,fun j hj=>ho j (Nat.lt_trans hj hi),?_⟩
   · show i≤x.cap
     omega
   · rw [Pt.size_eq,x.size_eq]
     have mono:∀ m,sumN (fun j=>(x.c j).size) i≤sumN (fun j=>(x.c j).size) (i+m):=by
      intro m
      induction m with
      | zero=>exact Nat.le_refl _
      | succ m ih=>rw [show i+(m+1)=(i+m)+1 from rfl];simp only [sumN];omega
     have:=mono (x.n - i)
     rw [show i+(x.n - i)=x.n by omega] at this
     exact Nat.add_le_add_left this 1
 · obtain ⟨b,o,_,_,hx⟩:=h3 i hi
   obtain ⟨q1,q2,q3⟩:=ih i hi hx (ho i hi) f h
   exact ⟨q1,q2,Nat.le_trans q3 (Nat.le_of_lt (x.size_part i hi))⟩
theorem nd_ok:∀ {x:Pt},POk x→∀ y ∈ ndP x,y.s.size≤maxLen:=by
 refine @(Pt.ind fun x ih h y hy=>?_)
 obtain ⟨h1,_,h3⟩:=(pOk_eq x).1 h
 rcases mem_ndP.1 hy with rfl | ⟨i,hi,hm⟩
 · exact h1
 · exact ih i hi (h3 i hi) y hm
theorem length_ndF (f:Pt):(ndF f).length+1=f.size:=by
 have:=length_ndP f
 rw [ndP_eq,List.length_cons] at this
 exact this
def cntO (f:ByteArray→Nat) (s:ByteArray):Option Nat:=if f s=0 then none else some (f s)
theorem look_cnt {W:World} {M q:Nat} {D:DataW Unit} {f:ByteArray→Nat} {s:ByteArray} (ho:W.ownsMap Tryz.prog 9 (plainElem (H:=Unit) Tryz.prog 3) M q D) (hF:MapsTo (cntO f) D) (hs:s.size≤maxLen) :
 ∀ nq,(Instr.lookup 80 (.map (some M)) (.string s) false).run Tryz.prog (W.drewN nq)=.ok (.int .i64 (f s:Nat)) (W.drewN nq):=fun nq=>by
 have ho':(W.drewN nq).ownsMap Tryz.prog 9 (plainElem (H:=Unit) Tryz.prog 3) M q D:=ho
 by_cases h:f s=0
 · have hkey:keyOf Tryz.prog 9 (.string s)=some (keyS s):=keyOf_string_mk Tryz.underlying9 hs
   obtain ⟨c,hrun,hc,hwc⟩:=ho'.lookup_int (q:=.i64) str_law Tryz.underlying80 Tryz.underlying3 rfl hkey
   have h2:D.atKey (keyS s) zeroI=.lit (.int .i64 c):=hc
   have h3:D.atKey (keyS s) zeroI=zeroI:=by
    have hn:=hF.1 s (by simp [cntO,h])
    obtain ⟨es,rfl⟩:=ho.isMap
    have:es.find? (fun p=>p.1.sameKey (keyS s))=none:=by
     rw [List.find?_eq_none]
     intro p hp hh
     have:Maps.has (.map es) (keyS s)=true:=List.any_eq_true.2 ⟨p,hp,hh⟩
     rw [hn] at this
     cases this
    simp only [DataW.atKey,this]
   rw [h3] at h2
   injection h2 with e
   injection e with _ e
   rw [hrun,← e,h]
   rfl
 · exact look1_to ho' hF hs (by simp [cntO,h])
theorem cnt_put {D:DataW Unit} {f:ByteArray→Nat} (h:MapsTo (cntO f) D) (hm:IsMap D) (s:ByteArray) (k:Nat):MapsTo (cntO fun t=>if t=s then k+1 else f t) (D.put (keyS s) (.lit (.int .i64 ((k+1:Nat):Int)))):=by
 refine (h.put hm s (k+1)).congr fun t=>?_
 by_cases e:t=s <;> simp [cntO,e]
def AhJ (L:List Pt) (A:World) (a0 k:Nat) (ds:List Deferred) (W:World):Prop :=
 Marks A.heap.size W ds∧Lb A.heap.size (a0+1) A W∧∃ D q,W.ownsMap Tryz.prog 9 (plainElem (H:=Unit) Tryz.prog 3) (a0+1) q D∧q≤k * 1048576∧MapsTo (cntO fun s=>gapN L s k) D
def AhIn (L:List Pt) (E:World) (a0 k:Nat) (pre:List Pt) (W:World):Prop :=
 Lb E.heap.size (a0+1) E W∧∃ D q,W.ownsMap Tryz.prog 9 (plainElem (H:=Unit) Tryz.prog 3) (a0+1) q D∧q≤k * 1048576+pre.length∧MapsTo (cntO (gapM L k pre)) D
theorem ahead_in (n:Nat) (x:Pt) (s:ByteArray) (w:World) (hX:IsP w x) (hsm:x.size≤1048576) (hok:POk x) :
 CallsIn Fence.wide n Tryz.prog 11 #[x.val,.string s] w fun e w'=>∃ v,e=.returned v∧w'.ownsRow w.heap.size 9 1 v (aheadL s x).length (cellsS (aheadL s x))∧Below w.heap.size w w':=by
 have hdd:∀ k:Nat,(Fence.wide.depth.isSome=true→1≤k):=fun k h=>by cases h
 have hmm:=@run_makeMap Tryz.prog
 obtain ⟨P0,hP0,hBP,hsP,hnP⟩:=boxP_one x w
 obtain ⟨d0,d1,d2,d3,d4,d5⟩:=hnP.at0
 have C1:=fronts_in (n - 1) x s P0 (hX.later hBP) hsm
 refine callsIn_of_wp_marks Tryz.func11 rfl trivial ?_ rfl
 simp only [Tryz.ntmps11,List.size_toArray,List.length_cons,List.length_nil,Nat.reduceAdd,Nat.reduceSub,Array.replicate_succ,Array.replicate_zero,List.push_toArray,List.append_toArray,List.nil_append,List.cons_append]
 gi_wp2_with (refine ⟨trivial,hdd _,?_⟩;gi_at_call 34;refine C1.mono ?_;clear C1;rintro e W1 ⟨v1,rfl,ho1,hB1⟩;obtain ⟨a1,cap1,rfl⟩:=row_slice ho1)
 have hBw:Below w.heap.size w W1:=hBP.trans (hB1.mono (by omega))
 obtain ⟨L,hL⟩:∃ L,L=frP s x:=⟨_,rfl⟩
 have hLs:∀ f ∈ L,IsP w f∧(∀ i,i < f.n→POk (f.c i))∧f.size≤x.size:=fun f hf=>frA_is hX hok f (frP_sub (hL ▸ hf))
 have hLl:L.length < 1048576:=by rw [hL];have:=frP_len s x;omega
 rw [← hL] at ho1 ⊢
 have hmem:∀ t,t ∈ aheadL s x ↔ L ≠ []∧∀ g ∈ L,t ∈ nmW (ndF g):=fun t=>by rw [hL];exact mem_ahead
 clear hL d0 d1 d2 d3 d4 d5
 obtain ⟨A,hA⟩:∃ A,((W1.alloc (.cells #[.slice a1 L.length cap1] 78)).alloc (.map #[] 0)).alloc (.cells #[.map (some (W1.heap.size+1))] 80)=A:=⟨_,rfl⟩
 have hAs:A.heap.size=W1.heap.size+3:=by rw [← hA];simp
 have hBA:Below W1.heap.size W1 A:=by rw [← hA];exact (((Below.refl _ W1).alloc (Nat.le_refl _) _).alloc (by simp) _).alloc (by simp;omega) _
 have hb0:Boxed A W1.heap.size 78 (.slice a1 L.length cap1):=by rw [← hA];exact ((Boxed.new W1 _ _).alloc _).alloc _
 have hm1:A.ownsMap Tryz.prog 9 (plainElem (H:=Unit) Tryz.prog 3) (W1.heap.size+1) 0 (.map []):=by
  have:=(World.ownsMap_made (W1.alloc (.cells #[.slice a1 L.length cap1] 78)) Tryz.prog 9 (plainElem (H:=Unit) Tryz.prog 3)).alloc (.cells #[.map (some (W1.heap.size+1))] 80)
  rw [World.size_alloc,hA] at this
  exact this
 have hb2:Boxed A (W1.heap.size+2) 80 (.map (some (W1.heap.size+1))):=by
  have:=Boxed.new ((W1.alloc (.cells #[.slice a1 L.length cap1] 78)).alloc (.map #[] 0)) 80 (.map (some (W1.heap.size+1)))
  rw [World.size_alloc,World.size_alloc,hA] at this
  exact this
 have hwA:Below w.heap.size w A:=hBw.trans (hBA.mono hBw.size)
 have hsw:=hBw.size
 rw [hA]
 clear hA hmm
 refine wpIn_loop (fun a wr=>∃ (k:Nat) (ds:List Deferred) (u7 u8 u17 u18 u19 u20 u21 u22 u53:Value),a={ tmps:=#[x.val,.string s,.pointer (some ⟨w.heap.size,0,none⟩),undef,.slice none 0 0,.pointer (some ⟨W1.heap.size,0,none⟩),.pointer (some ⟨W1.heap.size+1+1,0,none⟩),u7,u8,undef,x.val,.string s,.slice a1 L.length cap1,.map (some (W1.heap.size+1)),.slice a1 L.length cap1,.int .i64 (L.length:Nat),.int .i64 (k:Nat),u17,u18,u19,u20,u21,u22,undef,undef,undef,undef,undef,undef,undef,undef,undef,undef,undef,undef,undef,undef,undef,undef,undef,undef,undef,undef,undef,undef,undef,undef,undef,undef,undef,undef,undef,undef,u53,undef,undef,undef,undef,undef,undef],defers:=ds }∧k≤L.length∧AhJ L A W1.heap.size k ds wr)
  (fun a _=>L.length - (intOf (a.tmps[16]?.getD undef)).toNat) ⟨0,[],undef,undef,undef,undef,undef,undef,undef,undef,undef,rfl,Nat.zero_le _,trivial,Lb.refl _ _ _,_,0,hm1,Nat.le_refl _,mapsTo_none.congr (fun s=>rfl)⟩ ?_
 rintro _ wr ⟨k,ds,u7,u8,u17,u18,u19,u20,u21,u22,u53,rfl,hk,hmk,hLb,D,q,hmap,hq,hmt⟩
 have hBr:Below w.heap.size w wr:=hwA.trans (hLb.below (by omega) (by omega))
 have hb0r:Boxed wr W1.heap.size 78 (.slice a1 L.length cap1):=hLb.boxed hb0 (by omega) (by omega)
 have hb2r:Boxed wr (W1.heap.size+2) 80 (.map (some (W1.heap.size+1))):=hLb.boxed hb2 (by omega) (by omega)
 have hsr:=hLb.size
 by_cases hkn:k < L.length
 · obtain ⟨f,hf⟩:∃ f,f=L.getD k .nil:=⟨_,rfl⟩
   have hfm:f ∈ L:=by rw [hf];simp [hkn]
   obtain ⟨hf1,hf2,hf3⟩:=hLs f hfm
   obtain ⟨g,rfl,hg1,hg2,hgc⟩:=row_cell ho1 hkn
   have hgc':wr.cell? ⟨g,k,none⟩=some (.slice f.a f.n f.cap):=by
    rw [World.cell?_of_block (w:=W1) (w':=wr) ((hLb.block g (by omega) (by omega)).trans (hBA.block g (by omega))),hgc,hf]
    simp [cellsF,hkn]
   have HF:=hid hf
   clear hf hgc hfm
   obtain ⟨E,hE⟩:∃ E,(wr.alloc (.cells #[.int .i64 (k:Nat)] 3)).alloc (.cells #[.slice f.a f.n f.cap] 23)=E:=⟨_,rfl⟩
   have hEs:E.heap.size=wr.heap.size+2:=by rw [← hE];simp
   have hBE:Below wr.heap.size wr E:=by rw [← hE];exact ((Below.refl _ wr).alloc (Nat.le_refl _) _).alloc (by simp) _
   have hiE:Boxed E wr.heap.size 3 (.int .i64 (k:Nat)):=by rw [← hE];exact (Boxed.new wr _ _).alloc _
   have hpE:Boxed E (wr.heap.size+1) 23 (.slice f.a f.n f.cap):=by
    have:=Boxed.new (wr.alloc (.cells #[.int .i64 (k:Nat)] 3)) 23 (.slice f.a f.n f.cap)
    rw [World.size_alloc,hE] at this
    exact this
   have hwE:Below w.heap.size w E:=hBr.trans (hBE.mono (by omega))
   have hb2E:Boxed E (W1.heap.size+2) 80 (.map (some (W1.heap.size+1))):=Boxed.kept_of hb2r hBE (by omega)
   have hmE:=ownsMap_below hBE (by omega) hmap
   have hmkE:Marks A.heap.size E ds:=Marks.keep (fun D' _ _ h=>(hBE.block D' (Array.getElem?_eq_some_iff.1 h).1).trans h) hmk
   have hLE:Lb A.heap.size (W1.heap.size+1) A E:=hLb.trans (.of_below (hBE.mono (by omega)))
   have hdsl:∀ D',{ target:=.collected D',args:=#[] } ∈ ds→D' < E.heap.size:=fun D' h=>Marks.lt hmkE h
   gi_wp2_with (refine ⟨trivial,hdd _,?_⟩;gi_at_call 35;refine (nodesW_in _ _ _ rfl).mono ?_;rintro e w' ⟨rfl,rfl⟩)
   refine nodesW_fold (wr.heap.size+1) f (fun k=>k < w.heap.size) (AhIn L E W1.heap.size k)
    rfl rfl hpE.cell (fun k hk=>by omega) (PIn.xt (n:=w.heap.size) (fun k hk=>hk) (hf1.inn.below hwE)) ?_ ?_ ?_
    (fun b o=>{ tmps:=#[x.val,.string s,.pointer (some ⟨w.heap.size,0,none⟩),undef,.slice none 0 0,.pointer (some ⟨W1.heap.size,0,none⟩),.pointer (some ⟨W1.heap.size+1+1,0,none⟩),.pointer (some ⟨wr.heap.size,0,none⟩),.slice f.a f.n f.cap,.pointer (some ⟨b,o,none⟩),x.val,.string s,.slice (some ⟨g,0,none⟩) L.length cap1,.map (some (W1.heap.size+1)),.slice (some ⟨g,0,none⟩) L.length cap1,.int .i64 (L.length:Nat),.int .i64 (k:Nat),.bool true,.int .i64 (k:Nat),.pointer (some ⟨g,k,none⟩),.slice f.a f.n f.cap,.slice f.a f.n f.cap,.func (.func 89) #[] #[.pointer (some ⟨wr.heap.size+1,0,none⟩)],.pointer (some ⟨b,o,none⟩),undef,undef,undef,undef,undef,undef,undef,undef,undef,undef,undef,undef,undef,undef,undef,undef,undef,undef,undef,undef,undef,undef,undef,undef,undef,undef,undef,undef,undef,u53,undef,undef,undef,undef,undef,undef],defers:=[] }) ?_ ?_ ?_
   · rintro pre W B hag ⟨h1,D',q',m1,m2,m3⟩
     exact ⟨Lb.ag (Ag.refl _ _) hag (Nat.le_refl _) h1,D',q',ownsMap_ag hag (by omega) m1,m2,m3⟩
   · rintro pre W ⟨h1,D',q',m1,m2,m3⟩
     exact ⟨h1.trans (Lb.of_below (Below.refl _ _).drew),D',q',m1,m2,m3⟩
   · intro W hW
     exact ⟨Lb.of_below hW,D,q,ownsMap_below hW (by omega) hmE,by simpa using hq,hmt.congr (fun t=>by simp only [cntO,gapM_nil])⟩
   · intro l b o W K hK
     gi_wp2
     first | exact hK | simpa using hK
   · rintro l b o y pre W hb hn hx ⟨hL1,D',q',m1,m2,m3⟩ hs ⟨post,hpo⟩
     have hys:y.s.size≤maxLen:=by
      have hm:y ∈ ndF f:=by rw [← hpo];simp
      obtain ⟨i,hi,hy⟩:=mem_ndF.1 hm
      exact nd_ok (hf2 i hi) y hy
     have hlen:pre.length < 1048576:=by
      have h1:=congrArg List.length hpo
      have h2:=length_ndF f
      rw [List.length_append,List.length_cons] at h1
      omega
     have hkl:k < 1048576:=by omega
     have hlk:=look_cnt m1 m3 hys
     have cm:=(hL1.boxed hb2E (by omega) (by omega)).cell
     have ci:=(hL1.boxed hiE (by omega) (by omega)).cell
     obtain ⟨d0,d1,d2,d3,d4,d5⟩:=hn
     have SKIP:Hid ((isAM y=false ∨ gapM L k pre y.s ≠ k)→∀ nq,foldPost E.heap.size (fun k=>k < w.heap.size ∨ k=E.heap.size+2 ∨ k=E.heap.size+3) (AhIn L E W1.heap.size k (pre ++ [y])) (fun _ _=>False) W .normal ⟨#[],[]⟩ (W.drewN nq)):=fun h nq =>
      ⟨⟨Nat.le_refl _,fun _ _ _ h _=>h⟩,fun _ _ _ _ e=>e,hL1.trans ⟨rfl,rfl,rfl,Nat.le_refl _,fun _ _ _=>rfl⟩,D',q',m1,by rw [List.length_append];simp;omega,m3.congr fun t=>by simp only [cntO,gapM_skip h]⟩
     have HIT:Hid (isAM y=true→gapM L k pre y.s=k→∀ nq,∃ w1,(Instr.mapUpdate 80 (.map (some (W1.heap.size+1))) (.string y.s) (.int .i64 ((k+1:Nat):Int))).run Tryz.prog (W.drewN (nq+1))=.ok () w1∧foldPost E.heap.size (fun k=>k < w.heap.size ∨ k=E.heap.size+2 ∨ k=E.heap.size+3) (AhIn L E W1.heap.size k (pre ++ [y])) (fun _ _=>False) W .normal ⟨#[],[]⟩ w1):=fun ha hk0 nq=>by
      have g4:(W.drewN (nq+1)).ownsMap Tryz.prog 9 (plainElem (H:=Unit) Tryz.prog 3) (W1.heap.size+1) q' D':=m1
      have hkey:keyOf Tryz.prog 9 (.string y.s)=some (keyS y.s):=keyOf_string_mk Tryz.underlying9 hys
      obtain ⟨w1,hrunU,hown1,hgrow1⟩:=g4.update str_law Tryz.underlying80 (by unfold maxLen;omega) (val:=.int .i64 ((k+1:Nat):Int)) hkey (plainElem_int Tryz.underlying3 (WalkArith.wf_i64 (by omega)))
      refine ⟨w1,hrunU,⟨hgrow1.size,fun k' ob hk' e hc=>?_⟩,fun k' ob hk' ho e=>?_,?_,_,q'+1,hown1,by rw [List.length_append];simp;omega,?_⟩
      · exact (hgrow1.block k' (Array.getElem?_eq_some_iff.1 e).1 (fun q=>by injection q with q;omega)).trans e
      · exact (hgrow1.block k' (Array.getElem?_eq_some_iff.1 e).1 (fun q=>by injection q with q;rcases hk' with hk' | hk' <;> omega)).trans e
      · exact hL1.trans ⟨hgrow1.os,hgrow1.tape,hgrow1.output,hgrow1.size,fun k' h1 h2=>hgrow1.block k' (show k' < W.heap.size by omega) (fun q=>by injection q with q;exact h2 q)⟩
      · exact (cnt_put m3 g4.isMap y.s k).congr fun t=>by simp only [cntO,gapM_hit ha hk0]
     obtain ⟨c,hc⟩:∃ c,c=gapM L k pre y.s:=⟨_,rfl⟩
     rw [← hc] at hlk SKIP HIT
     have HC:=hid hc
     clear hc m1 m2 m3 hL1 hpo hx d2 d3 d4 d5
     by_cases ha:isAM y=true
     · by_cases hck:c=k
       · have tk:((c:Int) == (k:Int))=true:=by simp [hck]
         have H2:=HIT.out ha hck
         clear HIT SKIP
         have HH:Hid _:=H2
         clear H2 hck
         simp only [isAM,Bool.or_eq_true,decide_eq_true_eq] at ha
         have hor:(y.k == 1)=true ∨ ((y.k == 1)=false∧(y.k == 5)=true):=by
          rcases ha with ha | ha
          · exact .inl (by simp [ha])
          · exact .inr (by simp [ha])
         clear ha
         rcases hor with t1 | ⟨t1,t5⟩
         all_goals gi_wp2
         all_goals refine wpIn_region_round (by kernel_rfl) (by kernel_rfl) (by kernel_rfl) ?_
         all_goals repeat (gi_big_quiet_step (fail))
         all_goals refine wpQuietIn_nil ?_
         all_goals intro _ hw'
         all_goals obtain ⟨nq,hw''⟩:=hw'
         all_goals subst hw''
         all_goals obtain ⟨w1,hrunU,hfin⟩:=HH.out nq
         all_goals rw [show ((k+1:Nat):Int)=(k:Int)+1 by omega] at hrunU
         all_goals clear HH hlk
         all_goals have HFIN:Hid _:=hfin
         all_goals clear hfin
         all_goals gi_wp2
         all_goals (refine wpIn_region_reads 7 [(46,.map (some (W1.heap.size+1))),(47,.pointer (some ⟨b,o,none⟩)),(48,.pointer (some ⟨b,o,none⟩)),(49,.pointer (some ⟨b,o+1,none⟩)),(50,.string y.s),(51,.int .i64 (k:Nat)),(52,.int .i64 ((k:Int)+1))] _ (by kernel_rfl) (by kernel_rfl) rfl rfl (by kernel_rfl) rfl ?_ ?_ (w1:=w1) ?_)
         any_goals exact HFIN.out
         all_goals (generalize hfull:puts _ _=full)
         all_goals (have F6:full[6]? = some (.pointer (some ⟨W1.heap.size+1+1,0,none⟩)):=by rw [← hfull];kernel_rfl)
         all_goals (have F7:full[7]? = some (.pointer (some ⟨wr.heap.size,0,none⟩)):=by rw [← hfull];kernel_rfl)
         all_goals (have F9:full[9]? = some (.pointer (some ⟨b,o,none⟩)):=by rw [← hfull];kernel_rfl)
         all_goals (have F46:full[46]? = some (.map (some (W1.heap.size+1))):=by rw [← hfull];kernel_rfl)
         all_goals (have F47:full[47]? = some (.pointer (some ⟨b,o,none⟩)):=by rw [← hfull];kernel_rfl)
         all_goals (have F48:full[48]? = some (.pointer (some ⟨b,o,none⟩)):=by rw [← hfull];kernel_rfl)
         all_goals (have F49:full[49]? = some (.pointer (some ⟨b,o+1,none⟩)):=by rw [← hfull];kernel_rfl)
         all_goals (have F50:full[50]? = some (.string y.s):=by rw [← hfull];kernel_rfl)
         all_goals (have F51:full[51]? = some (.int .i64 (k:Nat)):=by rw [← hfull];kernel_rfl)
         all_goals (have F52:full[52]? = some (.int .i64 ((k:Int)+1)):=by rw [← hfull];kernel_rfl)
         all_goals clear hfull
         all_goals first
          | (simp [execOp,Act.eval,go_sem,Array.getD_eq_getD_getElem?,F46,F50,F52,hrunU];done)
          | (simp only [List.take_succ_cons,List.take_zero,Reads]
             have hwr:IntKind.i64.wrap ((k:Int)+1)=(k:Int)+1:=by simp [IntKind.wrap,IntKind.bits,IntKind.signed];omega
             refine ⟨⟨_,_,rfl,F46,?_⟩,⟨_,_,rfl,F47,?_⟩,⟨_,_,rfl,F48,?_⟩,⟨_,_,rfl,F49,?_⟩,⟨_,_,rfl,F50,?_⟩,⟨_,_,rfl,F51,?_⟩,⟨_,_,rfl,F52,?_⟩,trivial⟩
             all_goals simp [execOp,Act.eval,go_sem,Array.getD_eq_getD_getElem?,F6,F7,F9,F47,F48,F49,F51,cm,ci,d1,hwr])
       · have tk:((c:Int) == (k:Int))=false:=by simp;omega
         have HN:=SKIP.out (.inr hck)
         have HNO:Hid _:=HN
         clear HN SKIP HIT hck
         simp only [isAM,Bool.or_eq_true,decide_eq_true_eq] at ha
         rcases ha with ha | ha
         · have t1:(y.k == 1)=true:=by simp [ha]
           clear ha
           gi_wp2
           refine wpIn_region_round (by kernel_rfl) (by kernel_rfl) (by kernel_rfl) ?_
           repeat (gi_big_quiet_step (fail))
           refine wpQuietIn_nil ?_
           intro _ hw'
           obtain ⟨nq,hw''⟩:=hw'
           subst hw''
           gi_wp2
           exact HNO.out _
         · have t1:(y.k == 1)=false:=by simp [ha]
           have t5:(y.k == 5)=true:=by simp [ha]
           clear ha
           gi_wp2
           refine wpIn_region_round (by kernel_rfl) (by kernel_rfl) (by kernel_rfl) ?_
           repeat (gi_big_quiet_step (fail))
           refine wpQuietIn_nil ?_
           intro _ hw'
           obtain ⟨nq,hw''⟩:=hw'
           subst hw''
           gi_wp2
           exact HNO.out _
     · have HN:=SKIP.out (.inl (by simpa using ha))
       have HNO:Hid _:=HN
       simp only [isAM,Bool.or_eq_true,decide_eq_true_eq,not_or] at ha
       have t1:(y.k == 1)=false:=by simp [ha.1]
       have t5:(y.k == 5)=false:=by simp [ha.2]
       clear HN SKIP HIT ha hlk
       gi_wp2
       refine wpIn_region_round (by kernel_rfl) (by kernel_rfl) (by kernel_rfl) ?_
       repeat (gi_big_quiet_step (fail))
       refine wpQuietIn_nil ?_
       intro _ hw'
       obtain ⟨nq,hw''⟩:=hw'
       subst hw''
       gi_wp2
       exact HNO.out _
   · rintro D0 W hD ⟨hL1,D',q',m1,m2,m3⟩ hK
     have hnew:Marks A.heap.size W ({ target:=.collected D0,args:=#[] } :: ds) :=
      ⟨D0,rfl,by omega,hK,fun d' hd' e=>(by subst e;have:=hdsl D0 hd';omega),Marks.keep (fun D1 hD1 h h2=>(hL1.block D1 (hdsl D1 hD1) (by omega)).trans h2) hmkE⟩
     have hlf:=length_ndF f
     have hJn:Hid (AhJ L A W1.heap.size (k+1) ({ target:=.collected D0,args:=#[] } :: ds) W) :=
      ⟨hnew,hLE.trans ⟨hL1.os,hL1.tape,hL1.output,hL1.size,fun k h1 h2=>hL1.block k (by omega) h2⟩,D',q',m1,by omega,m3.congr fun t=>by rw [HF.out];rfl⟩
     have HK:=hid hkn
     clear hnew m1 m2 m3 hL1 hmkE hmE hmt hmap
     gi_wp2
     exact ⟨⟨k+1,_,_,_,_,_,_,_,_,_,_,rfl,HK.out,hJn.out⟩,by have:=HK.out;simp [intOf];omega⟩
 · obtain rfl:k=L.length:=by omega
   have c2:=hb2r.cell
   have eg:∀ args w,(callFunc 37 args).run Tryz.prog w=.ok (.enter 37 args) w:=enters_of Tryz.func37 (by kernel_rfl) rfl
   obtain ⟨pd,hpd⟩:∃ pd:Lit→DataW Unit→Bool,pd=fun _ d=>match d with | .lit (.int _ c)=>decide (c < (L.length:Int)) | _=>false:=⟨_,rfl⟩
   have CD:Calls Tryz.prog 36 #[.map (some (W1.heap.size+1)),.func (.func 37) #[] #[.pointer (some ⟨W1.heap.size,0,none⟩)]] wr fun e w'=>e=.returned (.tuple #[])∧w'.ownsMap Tryz.prog 9 (plainElem (H:=Unit) Tryz.prog 3) (W1.heap.size+1) q (Lib.deleteFuncD pd D)∧wr.grownBy w' (some (W1.heap.size+1)):=by
    refine AnyDf.maps_DeleteFunc (ρ:=Tryz.delM36_ren) Tryz.delM36 str_law _ pd 37 _ _ q D wr eg hmap ?_
    intro W key val kl yd yp hg hkey hR
    obtain ⟨c,rfl,hc,hwc⟩:=plainElem_int_inv Tryz.underlying3 hR
    have hyd:yd=.lit (.int .i64 c):=congrArg Prod.fst hc
    have hcell:=(hb0r.kept hg (by intro e;injection e with e;omega)).cell
    have hpdv:pd kl yd=decide (c < (L.length:Int)):=by rw [hpd,hyd]
    rw [hpdv]
    clear hmap hmt hkey hR hc hyd hpdv hpd
    show Calls Tryz.prog 37 #[key,.int .i64 c,.pointer (some ⟨W1.heap.size,0,none⟩)] W _
    go_enter Tryz.func37,Tryz.ntmps37
    go_wp2
    go_ret
    exact ⟨rfl,World.grownBy.refl _ _⟩
   have hhas:∀ t,t ∈ aheadL s x ↔ Maps.has (Lib.deleteFuncD pd D) (keyS t)=true:=fun t=>by
    rw [has_deleted (hmap.tidy str_law) pd t zeroI,hmem]
    have hle:=gapN_le L t L.length
    have hfull:=gapN_full (L:=L) (s:=t) (k:=L.length)
    have hall:(∀ g ∈ L,t ∈ nmW (ndF g)) ↔ ∀ i,i < L.length→t ∈ nmW (ndF (L.getD i .nil)):=by
     constructor
     · intro h i hi
       exact h _ (by simp [hi])
     · intro h g hg
       obtain ⟨i,hi,e⟩:=List.getElem_of_mem hg
       have:=h i hi
       simpa [hi,e] using this
    have hne:L ≠ [] ↔ 0 < L.length:=List.length_pos_iff.symm
    rw [hall,← hfull,hne]
    by_cases h0:gapN L t L.length=0
    · rw [hmt.1 t (by simp [cntO,h0])]
      simp
      omega
    · obtain ⟨e1,e2⟩:=hmt.2 t (gapN L t L.length) (by simp [cntO,h0])
      rw [e1,e2,hpd]
      simp
      omega
   have hsizeD:Maps.size (Lib.deleteFuncD pd D)≤q→True:=fun _=>trivial
   clear hsizeD hpd
   have hq2:q≤1099511627776:=by omega
   clear hmt hq hmem
   gi_wp2_with (first
    | (refine ⟨trivial,hdd _,?_⟩;gi_at_call 36;refine (callsIn_wide.2 CD).mono ?_;clear CD;rintro e w2 ⟨rfl,hm2,hg2⟩;have c2':=(hb2r.kept hg2 (by intro e;injection e with e;omega)).cell;have hsd:=hm2.size_le)
    | (refine ⟨trivial,hdd _,?_⟩;gi_at_call 39;refine (callsIn_wide.2 (keysI_any _ _)).mono ?_;rintro e w' ⟨rfl,rfl⟩)
    | (refine ⟨trivial,hdd _,?_⟩;gi_at_call 38;refine (callsIn_wide.2 (sortedI_any _ _ _ _ w2 hm2 (by unfold maxLen;omega) (by omega))).mono ?_;rintro e w3 ⟨v3,ss,rfl,hperm,ho3,hB3⟩))
   obtain ⟨e1,e2⟩:=sorted_keys hm2 (aheadL_sorted s x) hhas hperm
   rw [e1,e2] at ho3
   have hs2:=hg2.size
   rw [World.size_alloc] at hB3 ho3
   have hB23:Below w2.heap.size w2 w3:=((Below.refl _ w2).alloc (Nat.le_refl _) _).trans (hB3.mono (by omega))
   have hB2:Below w.heap.size w w2:=hBr.grown hg2 (by omega) (fun k e=>by injection e with e;omega)
   have hmk3:Marks A.heap.size w3 ds:=Marks.keep (fun D' _ h h2=>(hB23.block D' (by have:=(Array.getElem?_eq_some_iff.1 h2).1;omega)).trans ((hg2.block D' (Array.getElem?_eq_some_iff.1 h2).1 (fun e=>by injection e with e;omega)).trans h2)) hmk
   refine leaves_marks (base:=A.heap.size) hmk3 fun W' hW'=>⟨_,results_tmp rfl _ _ _,_,rfl,?_,hW'.below (by omega) (hB2.trans (hB23.mono (by omega)))⟩
   exact owns_low (hW'.owning ho3) (by omega)
theorem ahead_any (x:Pt) (s:ByteArray) (w:World) (hX:IsP w x) (hsm:x.size≤1048576) (hok:POk x) :
 Calls Tryz.prog 11 #[x.val,.string s] w fun e w'=>∃ v,e=.returned v∧w'.ownsRow w.heap.size 9 1 v (aheadL s x).length (cellsS (aheadL s x))∧Below w.heap.size w w' :=
 (callsIn_wide (n:=3)).1 (ahead_in 3 x s w hX hsm hok)
def togD (p:Pt) (l N M:List ByteArray):Bool :=
 if 1 < N.length ∨ 1 < M.length then false
 else match N with
  | []=>true
  | s :: _=>decide ((bothL l (aheadL s p ++ [s])).length=l.length)
def togB (p:Pt) (l:List ByteArray):Bool:=togD p l (bothL l (ofK 6 (ndP p))) (bothL l (ofK 5 (ndP p)))
theorem bothL_len (l m:List ByteArray):(bothL l m).length≤l.length:=List.length_filter_le _ _
theorem aheadL_len (s:ByteArray) (x:Pt) (hsm:x.size≤1048576):(aheadL s x).length≤1048576:=by
 have:(aheadL s x).length≤(nmW (ndP x)).length:=nodup_le _ _ (sorted_nodup _ (aheadL_sorted s x)) fun t ht=>by
  obtain ⟨h1,h2⟩:=mem_ahead.1 ht
  obtain ⟨f,hf⟩:=List.exists_mem_of_ne_nil _ h1
  obtain ⟨y,hy,h3⟩:=mem_nmW.1 (frA_in (frP_sub hf) t (h2 f hf))
  obtain ⟨i,hi,hm⟩:=mem_ndF.1 hy
  exact mem_nmW.2 ⟨y,mem_ndP.2 (.inr ⟨i,hi,hm⟩),h3⟩
 have h2:(nmW (ndP x)).length≤(ndP x).length:=by
  unfold nmW
  rw [List.length_map]
  exact List.length_filter_le _ _
 rw [length_ndP] at h2
 omega
theorem push_at {w:World} {base n g:Nat} {v:Value} {l:List ByteArray} {s:ByteArray} (h:w.ownsRow base 9 1 v n (cellsS l)) (hc:w.cell? ⟨g,0,none⟩=some (.string s)) (hb:base≤w.heap.size) (hn:n≤1048576) :
 ∃ v' w',(Builtin.append_ #[37,37] 37 #[v,.slice (some ⟨g,0,none⟩) 1 1]).run Tryz.prog w=.ok v' w'∧w'.ownsRow base 9 1 v' (n+1) (cellsS (l ++ [s]))∧Below base w w':=by
 obtain ⟨i0,hi,hz0,hz1,hz2⟩:=info_parts infoS
 obtain ⟨v',w',hrun,hown',hgrow,_⟩:=run_append_own (P:=Tryz.prog) (w:=w) base 37 37 9 i0 (.string ⟨#[]⟩) 1 16 Tryz.underlying37 hi hz0 hz1 hz2 rfl (by decide) v _ _ h ⟨g,0,none⟩ 1 1 [.string s] rfl
  (fun j u hu=>by
    match j,hu with
    | 0,hu =>
      simp at hu
      subst hu
      exact hc) (by simp [Value.oneCell']) (by unfold maxLen;omega) (by omega) hb
 refine ⟨v',w',hrun,?_,(Below.refl base w).grown hgrow hb fun k e=>(h.lt k e).1⟩
 have e:cellsS (l ++ [s])=cellsS l ++ [.string s]:=by simp [cellsS]
 rw [e]
 exact hown'
theorem together_any (w0 W:World) (b:Nat) (bk:Value) (q:Qy) (ns:Nat) (Q:Nat→Sch) (hBW:Below w0.heap.size w0 W) (h:Asked W b bk q ns Q) (hX:IsP w0 q.p) (hsm:q.p.size≤1048576) (hok:POk q.p) (a:Option Addr) (n cap:Nat) (l:List ByteArray) (hT:Txs W a n (atS l)) (hl:l.length=n) (hn:n≤1048576) :
 Calls Tryz.prog 153 #[.pointer (some ⟨b,0,none⟩),.slice a n cap] W (RV (.bool (togB q.p l)) W):=by
 obtain ⟨av,cv,a6,c6,a5,c5,po,hAB,-,h6,h5,-⟩:=h
 have l6:=ofK_len 6 (ndP q.p)
 have l5:=ofK_len 5 (ndP q.p)
 rw [length_ndP] at l6 l5
 have HT:=hid hT
 have HAB:=hid hAB
 obtain ⟨-,d13,d14,-⟩:=hAB.made
 have C6:=both_any a n cap l a6 _ c6 (ofK 6 (ndP q.p)) W hT hl hn h6 rfl (by omega)
 have C5:Hid (∀ d,Below W.heap.size W d→Calls Tryz.prog 182 _ d _):=fun d hd=>both_any a n cap l a5 _ c5 (ofK 5 (ndP q.p)) d (hT.later hd) hl hn (h5.later hd) rfl (by omega)
 have HA:Hid (∀ s d,Below W.heap.size W d→Calls Tryz.prog 11 #[q.p.val,.string s] d _):=fun s d hd=>ahead_any q.p s d (hX.later (hBW.trans (hd.mono hBW.size))) hsm hok
 obtain ⟨N,hN⟩:∃ N,N=bothL l (ofK 6 (ndP q.p)):=⟨_,rfl⟩
 obtain ⟨M,hM⟩:∃ M,M=bothL l (ofK 5 (ndP q.p)):=⟨_,rfl⟩
 have hNl:N.length≤n:=by rw [hN,← hl];exact bothL_len _ _
 have hMl:M.length≤n:=by rw [hM,← hl];exact bothL_len _ _
 have HSM:=hid hsm
 have HCB:Hid (∀ s (a':Option Addr) (cap':Nat) d,Below W.heap.size W d→Txs d a' ((aheadL s q.p).length+1) (atS (aheadL s q.p ++ [s]))→Calls Tryz.prog 182 #[.slice a n cap,.slice a' ((aheadL s q.p).length+1) cap'] d fun e w'=>∃ v,e=.returned v∧w'.ownsRow d.heap.size 9 1 v (bothL l (aheadL s q.p ++ [s])).length (cellsS (bothL l (aheadL s q.p ++ [s])))∧Below d.heap.size d w'):=fun s a' cap' d hd ht=>both_any a n cap l a' _ cap' (aheadL s q.p ++ [s]) d (HT.out.later hd) hl hn ht (by simp) (by have:=aheadL_len s q.p hsm;omega)
 have HTG:Hid (togB q.p l=togD q.p l N M):=by show _=_;rw [hN,hM];rfl
 have HLN:=hid hl
 rw [← hN] at C6
 rw [← hM] at C5
 clear hT h6 h5 hX hok hl hN hM hsm l6 l5 hAB
 by_cases h1:1 < N.length
 · have HE:Hid (togB q.p l=false):=by show _=_;rw [HTG.out];unfold togD;rw [if_pos (.inl h1)]
   have t1:¬ ((N.length:Int)≤1):=by omega
   have t1':((N.length:Int) > 1):=by omega
   clear h1
   go_enter Tryz.func153,Tryz.ntmps153
   go_wp2_with (go_at_call 182;refine C6.mono ?_;clear C6;rintro e w1 ⟨v1,rfl,ho1,hB1⟩;obtain ⟨a1,c1,rfl⟩:=row_slice ho1)
   all_goals first | (exfalso;omega) | (go_ret;exact ⟨by rw [HE.out];rfl,hB1⟩)
 · by_cases h2:1 < M.length
   · have HE:Hid (togB q.p l=false):=by show _=_;rw [HTG.out];unfold togD;rw [if_pos (.inr h2)]
     have t1:¬ ((N.length:Int) > 1):=by omega
     have t2:((M.length:Int) > 1):=by omega
     clear h1 h2
     go_enter Tryz.func153,Tryz.ntmps153
     go_wp2_with (first
      | (go_at_call 182;refine (C5.out w1 hB1).mono ?_;clear C5;rintro e w2 ⟨v2,rfl,ho2,hB2⟩;obtain ⟨a2,c2,rfl⟩:=row_slice ho2)
      | (go_at_call 182;refine C6.mono ?_;clear C6;rintro e w1 ⟨v1,rfl,ho1,hB1⟩;obtain ⟨a1,c1,rfl⟩:=row_slice ho1;obtain ⟨-,-,k14,-⟩:=(HAB.out.later hB1).made))
     all_goals first | (exfalso;omega) | (go_ret;exact ⟨by rw [HE.out];rfl,hB1.trans (hB2.mono hB1.size)⟩)
   · have t1:¬ ((N.length:Int) > 1):=by omega
     have t2:¬ ((M.length:Int) > 1):=by omega
     cases N with
     | nil =>
       have HE:Hid (togB q.p l=true):=by show _=_;rw [HTG.out,togD,if_neg (by omega)]
       clear h1 h2
       simp only [List.length_nil] at C6
       go_enter Tryz.func153,Tryz.ntmps153
       go_wp2_with (first
        | (go_at_call 182;refine (C5.out w1 hB1).mono ?_;clear C5;rintro e w2 ⟨v2,rfl,ho2,hB2⟩;obtain ⟨a2,c2,rfl⟩:=row_slice ho2)
        | (go_at_call 182;refine C6.mono ?_;clear C6;rintro e w1 ⟨v1,rfl,ho1,hB1⟩;obtain ⟨a1,c1,rfl⟩:=row_slice ho1;obtain ⟨-,-,k14,-⟩:=(HAB.out.later hB1).made))
       all_goals first | (exfalso;omega) | (go_ret;exact ⟨by rw [HE.out];rfl,hB1.trans (hB2.mono hB1.size)⟩)
     | cons s r =>
       have hr:r=[]:=by
        cases r with
        | nil=>rfl
        | cons _ _=>simp at h1
       subst hr
       obtain ⟨B,hBB⟩:∃ B,B=bothL l (aheadL s q.p ++ [s]):=⟨_,rfl⟩
       have HTOG:Hid (togB q.p l=decide (B.length=n)):=by show _=_;rw [HTG.out,togD,if_neg (by omega),hBB,← HLN.out]
       clear h1 h2
       simp only [List.length_cons,List.length_nil,Nat.zero_add] at C6 t1
       have HCB':Hid _:=HCB.out s
       rw [← hBB] at HCB'
       clear HCB HTG hBB
       go_enter Tryz.func153,Tryz.ntmps153
       go_wp2_with (first
        | (go_at_call 182;refine (C5.out w1 hB1).mono ?_;clear C5;rintro e w2 ⟨v2,rfl,ho2,hB2⟩;obtain ⟨a2,c2,rfl⟩:=row_slice ho2)
        | (go_at_call 182;refine C6.mono ?_;clear C6;rintro e w1 ⟨v1,rfl,ho1,hB1⟩;obtain ⟨a1,c1,rfl⟩:=row_slice ho1;obtain ⟨-,-,k14,-⟩:=(HAB.out.later hB1).made))
       all_goals (try (exfalso;omega))
       have hBW1:Below W.heap.size W w2:=hB1.trans (hB2.mono hB1.size)
       have HBW1:=hid hBW1
       obtain ⟨g,eg,-,-,hgc⟩:=row_cell (own_laterS ho1 hB2) (show 0 < 1 by omega)
       subst eg
       have HC0:=hid hgc
       have HN1:Hid (NodeP w2 b 1 q.p):=(HAB.out.later hBW1).node
       have HA1:Hid (∀ s d,Below w2.heap.size w2 d→Calls Tryz.prog 11 #[q.p.val,.string s] d _):=fun s d hd=>HA.out s d (hBW1.trans (hd.mono hBW1.size))
       have HCB:Hid _:=fun a' cap' d (hd:Below w2.heap.size w2 d)=>HCB'.out a' cap' d (hBW1.trans (hd.mono hBW1.size))
       clear hgc HA HCB' ho1 ho2 hB1 hB2 hBW1 k14 d13 d14 HAB
       have HA:=HA1
       clear HA1
       obtain ⟨W1,hW1⟩:∃ W1,W1=w2:=⟨_,rfl⟩
       rw [← hW1] at HBW1 HC0 HN1 HA HCB ⊢
       clear hW1
       refine bg fun d hHeld=>?_
       have hT:=hHeld
       have hsd:W1.heap.size≤d.heap.size:=hT.size
       refine tk 0 ?_
       refine tk 1 ?_
       refine tk 2 ?_
       refine tk 3 ?_
       refine tk 4 ?_ (hy:=fun w9 hSw=>by obtain ⟨d1,d2,d3,d4,d5,d6⟩:=(HN1.out.later hSw).at1;go_simp;(try with_reducible rfl))
       refine tk 5 ?_
       refine tk 6 ?_
       refine tk 7 ?_ (hy:=fun w9 hSw=>by have cc:=cell_later HC0.out hSw;go_simp;(try with_reducible rfl))
       refine tk 9 ?_
       refine tk 10 ?_
       refine tk 11 ?_ (hy:=fun w9 hSw=>by have cc:=cell_later HC0.out hSw;go_simp;(try with_reducible rfl))
       refine wpAnyH_ready (rs:=[8,12]) (by kernel_rfl) (by simp) ?_
       refine AllReadyH.cons (o:=⟨some 37,.call { callee:=.value (.func 11),args:=#[.tmp 33,.tmp 36],argTypes:=#[25,9] },37,_,_,_⟩) rfl (fun K hK=>?wayA) (AllReadyH.cons (o:=⟨some 41,.buildSlice 37 1 #[(0,.tmp 40)],37,_,_,_⟩) rfl (fun K hK=>?wayB) AllReadyH.nil)
       case wayA =>
        go_simp
        refine (HA.out s d hT).mono ?_
        rintro e x8 ⟨v8,rfl,ho8,hN8⟩
        obtain ⟨a8,c8,rfl⟩:=row_slice ho8
        go_wp2_with fail
        have hT8:Below W1.heap.size W1 x8:=hT.trans (hN8.mono hT.size)
        refine hK.out _ _ hT8 (fun hHeld=>?_)
        clear hK K hT;have hT:Below W1.heap.size W1 x8:=hT8;clear hT8
        try simp only [Act.put,s_put,s_0,s_1]
        refine rd 12 fun K hK=>?_
        go_simp
        have hT2:Below W1.heap.size W1 (x8.alloc (.cells #[.string s] 9)):=hT.alloc hT.size _
        refine hK.out _ _ hT2 (fun hHeld=>?_)
        clear hK K
        try simp only [Act.put,s_put,s_0,s_1]
        obtain ⟨v',w3,hrun,ho3,hB3⟩:=push_at (ho8.alloc _) (cell_one_new x8 (.string s) _ 0 _ rfl) (by have:=hN8.size;simp;omega) (aheadL_len s q.p HSM.out)
        obtain ⟨a',cap',rfl⟩:=row_slice ho3
        refine rd 13 fun K hK=>?_
        rw [if_pos (by rfl)]
        refine wpOp_append_at (.tmp 37) (.tmp 41) 37 rfl _ _ _ rfl rfl hrun ?_
        have hT3:Below W1.heap.size W1 w3:=hT2.trans (hB3.mono hsd)
        refine hK.out _ _ hT3 (fun hHeld=>?_)
        clear hK K
        try simp only [Act.put,s_put,s_0,s_1]
        refine tk 14 ?_
        refine dn ?_
        have CB:=HCB.out a' cap' w3 hT3 (own_txs' ho3)
        clear hrun ho3 hHeld
        go_wp2_with (go_at_call 182;refine CB.mono ?_;clear CB;rintro e w4 ⟨v4,rfl,ho4,hB4⟩;obtain ⟨a4,c4,rfl⟩:=row_slice ho4)
        go_ret
        exact ⟨by rw [HTOG.out];simp;rw [Bool.eq_iff_iff,beq_iff_eq,decide_eq_true_eq];omega,HBW1.out.trans ((hT3.trans (hB4.mono hT3.size)).mono HBW1.out.size)⟩
       case wayB =>
        go_simp
        have hT2:Below W1.heap.size W1 (d.alloc (.cells #[.string s] 9)):=hT.alloc hT.size _
        refine hK.out _ _ hT2 (fun hHeld=>?_)
        clear hK K
        try simp only [Act.put,s_put,s_0,s_1]
        obtain ⟨e9,he9⟩:∃ e9,e9=d.alloc (.cells #[.string s] 9):=⟨_,rfl⟩
        have hc9:e9.cell? ⟨d.heap.size,0,none⟩=some (.string s):=by rw [he9];exact cell_one_new d (.string s) _ 0 _ rfl
        rw [← he9] at hT2 hHeld ⊢
        clear hT;have hT:=hT2;clear hT2 he9
        have hse:W1.heap.size≤e9.heap.size:=hT.size
        refine rd 8 fun K hK=>?_
        go_simp
        refine (HA.out s e9 hT).mono ?_
        rintro e x8 ⟨v8,rfl,ho8,hN8⟩
        obtain ⟨a8,c8,rfl⟩:=row_slice ho8
        go_wp2_with fail
        have hT8:Below W1.heap.size W1 x8:=hT.trans (hN8.mono hT.size)
        refine hK.out _ _ hT8 (fun hHeld=>?_)
        clear hK K hT;have hT:Below W1.heap.size W1 x8:=hT8;clear hT8
        try simp only [Act.put,s_put,s_0,s_1]
        have hT2:=hT
        obtain ⟨v',w3,hrun,ho3,hB3⟩:=push_at (ho8) (cell_later hc9 hN8) (hN8.size) (aheadL_len s q.p HSM.out)
        obtain ⟨a',cap',rfl⟩:=row_slice ho3
        refine rd 13 fun K hK=>?_
        rw [if_pos (by rfl)]
        refine wpOp_append_at (.tmp 37) (.tmp 41) 37 rfl _ _ _ rfl rfl hrun ?_
        have hT3:Below W1.heap.size W1 w3:=hT2.trans (hB3.mono hse)
        refine hK.out _ _ hT3 (fun hHeld=>?_)
        clear hK K
        try simp only [Act.put,s_put,s_0,s_1]
        refine tk 14 ?_
        refine dn ?_
        have CB:=HCB.out a' cap' w3 hT3 (own_txs' ho3)
        clear hrun ho3 hHeld
        go_wp2_with (go_at_call 182;refine CB.mono ?_;clear CB;rintro e w4 ⟨v4,rfl,ho4,hB4⟩;obtain ⟨a4,c4,rfl⟩:=row_slice ho4)
        go_ret
        exact ⟨by rw [HTOG.out];simp;rw [Bool.eq_iff_iff,beq_iff_eq,decide_eq_true_eq];omega,HBW1.out.trans ((hT3.trans (hB4.mono hT3.size)).mono HBW1.out.size)⟩
theorem mem_uses_nd {y:Pt}:∀ x:Pt,y ∈ usesP x ↔ y ∈ ndP x∧nmd y.k=true:=by
 refine Pt.ind fun x ih=>?_
 rw [usesP_eq,List.mem_append,mem_catN,mem_ndP]
 constructor
 · rintro (h | ⟨i,hi,h⟩)
   · split at h
     · rename_i hk
       rw [List.mem_singleton] at h
       subst h
       exact ⟨.inl rfl,hk⟩
     · simp at h
   · have:=(ih i hi).1 h
     exact ⟨.inr ⟨i,hi,this.1⟩,this.2⟩
 · rintro ⟨rfl | ⟨i,hi,h⟩,hk⟩
   · exact .inl (by rw [if_pos hk];simp)
   · exact .inr ⟨i,hi,(ih i hi).2 ⟨h,hk⟩⟩
theorem mem_ofK {k:Int} {s:ByteArray} {l:List Pt}:s ∈ ofK k l ↔ ∃ y ∈ l,y.k=k∧y.s=s:=by
 simp only [ofK,List.mem_map,List.mem_filter,decide_eq_true_eq]
 constructor
 · rintro ⟨y,⟨h1,h2⟩,h3⟩;exact ⟨y,h1,h2,h3⟩
 · rintro ⟨y,h1,h2,h3⟩;exact ⟨y,⟨h1,h2⟩,h3⟩
def kindsB (k:Int) (x:Pt) (s:ByteArray):Bool:=memB (ofK k (usesP x)) s
theorem kinds_of {k:Int} (hk:nmd k=true) (x:Pt) (s:ByteArray):kindsB k x s=memB (ofK k (ndP x)) s:=by
 rw [Bool.eq_iff_iff,kindsB,memB_iff,memB_iff,mem_ofK,mem_ofK]
 constructor
 · rintro ⟨y,h1,h2,h3⟩
   exact ⟨y,((mem_uses_nd x).1 h1).1,h2,h3⟩
 · rintro ⟨y,h1,h2,h3⟩
   exact ⟨y,(mem_uses_nd x).2 ⟨h1,by rw [h2];exact hk⟩,h2,h3⟩
def lastS (l:List ByteArray):ByteArray:=l.getLast?.getD ⟨#[]⟩
def togA (p:Pt) (l N M:List ByteArray):Bool :=
 if 1 < N.length ∨ 1 < M.length then false
 else if N.length=0 then true
 else l.all fun t=>decide (t=lastS N) || memB (aheadL (lastS N) p) t
theorem tog_doc (p:Pt) (l:List ByteArray):togB p l=togA p l (l.filter (kindsB 6 p)) (l.filter (kindsB 5 p)):=by
 have e6:bothL l (ofK 6 (ndP p))=l.filter (kindsB 6 p):=by
  unfold bothL
  congr 1
  funext s
  exact (kinds_of rfl p s).symm
 have e5:bothL l (ofK 5 (ndP p))=l.filter (kindsB 5 p):=by
  unfold bothL
  congr 1
  funext s
  exact (kinds_of rfl p s).symm
 unfold togB
 rw [e6,e5]
 generalize l.filter (kindsB 6 p)=N
 generalize l.filter (kindsB 5 p)=M
 unfold togD togA
 by_cases h:1 < N.length ∨ 1 < M.length
 · rw [if_pos h,if_pos h]
 · rw [if_neg h,if_neg h]
   cases N with
   | nil=>rfl
   | cons s r =>
     have hr:r=[]:=by
      cases r with
      | nil=>rfl
      | cons _ _=>exact absurd (.inl (by simp)) h
     subst hr
     rw [if_neg (by simp)]
     show decide ((bothL l (aheadL s p ++ [s])).length=l.length)=l.all fun t=>decide (t=s) || memB (aheadL s p) t
     rw [Bool.eq_iff_iff,decide_eq_true_eq,List.all_eq_true,bothL,List.length_filter_eq_length_iff]
     constructor
     · intro h t ht
       have:=memB_iff.1 (h t ht)
       rw [List.mem_append,List.mem_singleton] at this
       rw [Bool.or_eq_true,decide_eq_true_eq,memB_iff]
       exact this.symm
     · intro h t ht
       have:=h t ht
       rw [Bool.or_eq_true,decide_eq_true_eq,memB_iff] at this
       rw [memB_iff,List.mem_append,List.mem_singleton]
       exact this.symm
def FstR (R:Nat→Int→Prop) (n:Nat) (z:Int):Prop:=(z=0∧∀ i,i < n→R i 0) ∨ (z ≠ 0∧∃ i,i < n∧(∀ j,j < i→R j 0)∧R i z)
theorem FstR.one {R:Nat→Int→Prop} {n:Nat} (h1:∀ i,i < n→∀ z z',R i z→R i z'→z=z') {z z':Int} (h:FstR R n z) (h':FstR R n z'):z=z':=by
 rcases h with ⟨rfl,a⟩ | ⟨a,i,hi,b,c⟩ <;> rcases h' with ⟨rfl,a'⟩ | ⟨a',i',hi',b',c'⟩
 · rfl
 · exact h1 i' hi' _ _ (a i' hi') c'
 · exact h1 i hi _ _ c (a' i hi)
 · rcases Nat.lt_trichotomy i i' with h | h | h
   · exact absurd (h1 i hi _ _ c (b' i h)) a
   · subst h;exact h1 i hi _ _ c c'
   · exact absurd (h1 i' hi' _ _ c' (b i' h)) a'
abbrev zeroX:Array Value:=#[.int .i64 0,.int .i64 0,.int .i64 0,.string ⟨#[]⟩,.string ⟨#[]⟩,.string ⟨#[]⟩,.slice none 0 0]
abbrev cells7 (x:X):Array Value:=#[.int .i64 x.k,.int .i64 x.v.k,.int .i64 x.v.n,.string x.v.s,.string x.s,.string x.f,.slice x.a x.n x.cap]
theorem boxX_put (x:X) (w:World):∃ A W,w.alloc (.cells zeroX 54)=A∧A.heap[w.heap.size]? = some (.cells zeroX 54 (0,0)) ∧
 ((((((A.setCell ⟨w.heap.size,0,none⟩ (.int .i64 x.k)).setCell ⟨w.heap.size,1,none⟩ (.int .i64 x.v.k)).setCell ⟨w.heap.size,2,none⟩ (.int .i64 x.v.n)).setCell ⟨w.heap.size,3,none⟩ (.string x.v.s)).setCell ⟨w.heap.size,4,none⟩ (.string x.s)).setCell ⟨w.heap.size,5,none⟩ (.string x.f)).setCell ⟨w.heap.size,6,none⟩ (.slice x.a x.n x.cap)=W ∧
 Below w.heap.size w W∧W.heap[w.heap.size]? = some (.cells (cells7 x) 54 (0,0))∧W.heap.size=w.heap.size+1:=by
 have h0:(w.alloc (.cells zeroX 54)).heap[w.heap.size]? = some (.cells zeroX 54 (0,0)):=World.alloc_heap_new w _
 exact ⟨_,_,rfl,h0,rfl,((((((nwB w _).setCell (Nat.le_refl _) _).setCell (Nat.le_refl _) _).setCell (Nat.le_refl _) _).setCell (Nat.le_refl _) _).setCell (Nat.le_refl _) _).setCell (Nat.le_refl _) _ |>.setCell (Nat.le_refl _) _,
  heap_set (heap_set (heap_set (heap_set (heap_set (heap_set (heap_set h0)))))),by simp⟩
theorem zero_cellsX {w:World} {B:Nat} (h:w.heap[B]? = some (.cells zeroX 54 (0,0))):(w.cell? ⟨B,0,none⟩=some (.int .i64 0)∧w.cell? ⟨B,1,none⟩=some (.int .i64 0)∧w.cell? ⟨B,2,none⟩=some (.int .i64 0)∧w.cell? ⟨B,3,none⟩=some (.string ⟨#[]⟩)∧w.cell? ⟨B,4,none⟩=some (.string ⟨#[]⟩)∧w.cell? ⟨B,5,none⟩=some (.string ⟨#[]⟩)∧w.cell? ⟨B,6,none⟩=some (.slice none 0 0)) ∧
 ∀ j,w.frozen? ⟨B,j,none⟩=false:=by
 refine ⟨⟨?_,?_,?_,?_,?_,?_,?_⟩,fun j=>?_⟩ <;> simp [World.cell?,World.frozen?,h]
theorem cells7_at {w:World} {B:Nat} {x:X} (h:w.heap[B]? = some (.cells (cells7 x) 54 (0,0))):w.cell? ⟨B,0,none⟩=some (.int .i64 x.k)∧w.cell? ⟨B,1,none⟩=some (.int .i64 x.v.k)∧w.cell? ⟨B,2,none⟩=some (.int .i64 x.v.n)∧w.cell? ⟨B,3,none⟩=some (.string x.v.s) ∧
 w.cell? ⟨B,4,none⟩=some (.string x.s)∧w.cell? ⟨B,5,none⟩=some (.string x.f)∧w.cell? ⟨B,6,none⟩=some (.slice x.a x.n x.cap):=by
 refine ⟨?_,?_,?_,?_,?_,?_,?_⟩ <;> simp [World.cell?,h]
abbrev zeroIt:Array Value:=#[.string ⟨#[]⟩,.int .i64 0,.string ⟨#[]⟩,.string ⟨#[]⟩]
theorem boxI_put (x:It) (w:World):∃ A W,w.alloc (.cells zeroIt 77)=A∧A.heap[w.heap.size]? = some (.cells zeroIt 77 (0,0)) ∧
 (((A.setCell ⟨w.heap.size,0,none⟩ (.string x.nm)).setCell ⟨w.heap.size,1,none⟩ (.int .i64 x.k)).setCell ⟨w.heap.size,2,none⟩ (.string x.s)).setCell ⟨w.heap.size,3,none⟩ (.string x.f)=W ∧
 Below w.heap.size w W∧W.heap[w.heap.size]? = some (.cells x.cells 77 (0,0))∧W.heap.size=w.heap.size+1:=by
 have h0:(w.alloc (.cells zeroIt 77)).heap[w.heap.size]? = some (.cells zeroIt 77 (0,0)):=World.alloc_heap_new w _
 exact ⟨_,_,rfl,h0,rfl,((((nwB w _).setCell (Nat.le_refl _) _).setCell (Nat.le_refl _) _).setCell (Nat.le_refl _) _).setCell (Nat.le_refl _) _,
  heap_set (heap_set (heap_set (heap_set h0))),by simp⟩
theorem zero_cellsI {w:World} {B:Nat} (h:w.heap[B]? = some (.cells zeroIt 77 (0,0))):(w.cell? ⟨B,0,none⟩=some (.string ⟨#[]⟩)∧w.cell? ⟨B,1,none⟩=some (.int .i64 0)∧w.cell? ⟨B,2,none⟩=some (.string ⟨#[]⟩)∧w.cell? ⟨B,3,none⟩=some (.string ⟨#[]⟩))∧∀ j,w.frozen? ⟨B,j,none⟩=false:=by
 refine ⟨⟨?_,?_,?_,?_⟩,fun j=>?_⟩ <;> simp [World.cell?,World.frozen?,h]
def Looks (W:World) (R:Nat→Int→Prop) (f:Nat) (first cap:Array Value) (n:Nat) (arg:Nat→Value):Prop :=
 ∀ i,i < n→∀ d,Below W.heap.size W d→Calls Tryz.prog f (first ++ #[arg i] ++ cap) d fun e w'=>∃ z v,e=.returned v∧R i z∧ErrW z v∧Below d.heap.size d w'
theorem eachX_any (a:Option Addr) (n cap:Nat) (c:Nat→X) (W:World) (hn:n≤9223372036854775807) (hX:∀ d,Below W.heap.size W d→∀ i,i < n→∃ b o,a=some ⟨b,o,none⟩∧Node d b (o+i * 7) (c i)) (R:Nat→Int→Prop) (p:Value) (h:Looks W R 117 #[p] #[] n (fun i=>(c i).val)) :
 Calls Tryz.prog 116 #[.slice a n cap,.func (.func 117) #[p] #[]] W fun e w'=>∃ z v,e=.returned v∧FstR R n z∧ErrW z v∧Below W.heap.size W w':=by
 have HX:Hid _:=hX
 have HL:Hid _:=h
 clear hX h
 go_enter Tryz.func116,Tryz.ntmps116
 go_wp2
 go_loopw [10] (fun u wr=>∃ k:Nat,k≤n∧u=.int .i64 k∧Hid (∀ j,j < k→R j 0)∧Below W.heap.size W wr) (fun u _=>n - (intOf u).toNat)
 case atStart=>exact ⟨0,Nat.zero_le _,rfl,fun j hj=>absurd hj (Nat.not_lt_zero _),Below.refl _ _⟩
 case round =>
  obtain ⟨k,hk,rfl,HK,hB⟩:=hrel
  by_cases hkn:k < n
  · obtain ⟨b1,o1,rfl,hn1⟩:=HX.out wr hB k hkn
    obtain ⟨C,V,hC,hCb,hCV,hCB,hCn,hCs⟩:=boxX_put (c k) wr
    obtain ⟨⟨g0,g1,g2,g3,g4,g5,g6⟩,fz⟩:=zero_cellsX hCb
    obtain ⟨c0,c1,c2,c3,c4,c5,c6⟩:=hn1
    obtain ⟨j0,j1,j2,j3,j4,j5,j6⟩:=cells7_at hCn
    have HBV:Hid (Below W.heap.size W V):=hB.trans (hCB.mono hB.size)
    clear hCb hCn hCs hCB
    have C7:=HL.out k hkn V HBV.out
    have HKN:=hid hkn
    simp only [List.append_toArray,List.cons_append,List.nil_append] at C7
    go_wp2_with (go_at_call 117;refine C7.mono ?_;clear C7;rintro e w2 ⟨z,v,rfl,hz,hv,hB2⟩;rcases hv with ⟨rfl,rfl⟩ | ⟨hz0,y,hy,rfl⟩;rotate_left;(obtain ⟨yt,yu,ey⟩:=y.iface;rw [ey]))
    · go_ret
      refine ⟨z,_,rfl,.inr ⟨hz0,k,HKN.out,HK.out,hz⟩,.inr ⟨hz0,.row k y,hy,by rw [Rfs.val,ey];rfl⟩,?_⟩
      have:=HBV.out.trans (hB2.mono HBV.out.size)
      first | exact this | exact this.alloc this.size _
    · go_roundw
      case rel =>
       refine ⟨k+1,HKN.out,by simp,fun j hj=>?_,HBV.out.trans (hB2.mono HBV.out.size)⟩
       by_cases ej:j=k
       · rw [ej];exact hz
       · exact HK.out j (by omega)
      case measure=>have:=HKN.out;simp [intOf];omega
  · have hk':k=n:=by omega
    subst hk'
    go_wp2
    go_ret
    exact ⟨0,_,rfl,.inl ⟨rfl,HK.out⟩,.inl ⟨rfl,rfl⟩,hB⟩
theorem eachI_any (a:Option Addr) (n cap:Nat) (c:Nat→It) (W:World) (hn:n≤9223372036854775807) (hX:∀ d,Below W.heap.size W d→Its d a n c) (R:Nat→Int→Prop) (p:Value) (h:Looks W R 122 #[p] #[] n (fun i=>(c i).val)) :
 Calls Tryz.prog 121 #[.slice a n cap,.func (.func 122) #[p] #[]] W fun e w'=>∃ z v,e=.returned v∧FstR R n z∧ErrW z v∧Below W.heap.size W w':=by
 have HX:Hid _:=hX
 have HL:Hid _:=h
 clear hX h
 go_enter Tryz.func121,Tryz.ntmps121
 go_wp2
 go_loopw [10] (fun u wr=>∃ k:Nat,k≤n∧u=.int .i64 k∧Hid (∀ j,j < k→R j 0)∧Below W.heap.size W wr) (fun u _=>n - (intOf u).toNat)
 case atStart=>exact ⟨0,Nat.zero_le _,rfl,fun j hj=>absurd hj (Nat.not_lt_zero _),Below.refl _ _⟩
 case round =>
  obtain ⟨k,hk,rfl,HK,hB⟩:=hrel
  by_cases hkn:k < n
  · obtain ⟨b1,o1,rfl,hn1⟩:=HX.out wr hB k hkn
    obtain ⟨C,V,hC,hCb,hCV,hCB,hCn,hCs⟩:=boxI_put (c k) wr
    obtain ⟨⟨g0,g1,g2,g3⟩,fz⟩:=zero_cellsI hCb
    obtain ⟨c0,c1,c2,c3⟩:=hn1
    obtain ⟨j0,j1,j2,j3⟩:=itAt_box hCn
    simp only [Nat.zero_add] at j1 j2 j3
    have HBV:Hid (Below W.heap.size W V):=hB.trans (hCB.mono hB.size)
    clear hCb hCn hCs hCB
    have C7:=HL.out k hkn V HBV.out
    have HKN:=hid hkn
    simp only [List.append_toArray,List.cons_append,List.nil_append] at C7
    go_wp2_with (go_at_call 122;refine C7.mono ?_;clear C7;rintro e w2 ⟨z,v,rfl,hz,hv,hB2⟩;rcases hv with ⟨rfl,rfl⟩ | ⟨hz0,y,hy,rfl⟩;rotate_left;(obtain ⟨yt,yu,ey⟩:=y.iface;rw [ey]))
    · go_ret
      refine ⟨z,_,rfl,.inr ⟨hz0,k,HKN.out,HK.out,hz⟩,.inr ⟨hz0,.row k y,hy,by rw [Rfs.val,ey];rfl⟩,?_⟩
      have:=HBV.out.trans (hB2.mono HBV.out.size)
      first | exact this | exact this.alloc this.size _
    · go_roundw
      case rel =>
       refine ⟨k+1,HKN.out,by simp,fun j hj=>?_,HBV.out.trans (hB2.mono HBV.out.size)⟩
       by_cases ej:j=k
       · rw [ej];exact hz
       · exact HK.out j (by omega)
      case measure=>have:=HKN.out;simp [intOf];omega
  · have hk':k=n:=by omega
    subst hk'
    go_wp2
    go_ret
    exact ⟨0,_,rfl,.inl ⟨rfl,HK.out⟩,.inl ⟨rfl,rfl⟩,hB⟩
theorem eachS_any (a:Option Addr) (n cap:Nat) (S:Nat→ByteArray) (W:World) (hn:n≤9223372036854775807) (hX:Txs W a n S) (R:Nat→Int→Prop) (p q:Value) (h:Looks W R 120 #[] #[p,q] n (fun i=>.string (S i))) :
 Calls Tryz.prog 119 #[.slice a n cap,.func (.func 120) #[] #[p,q]] W fun e w'=>∃ z v,e=.returned v∧FstR R n z∧ErrW z v∧Below W.heap.size W w':=by
 have HX:Hid _:=hX
 have HL:Hid _:=h
 clear hX h
 go_enter Tryz.func119,Tryz.ntmps119
 go_wp2
 go_loopw [10] (fun u wr=>∃ k:Nat,k≤n∧u=.int .i64 k∧Hid (∀ j,j < k→R j 0)∧Below W.heap.size W wr) (fun u _=>n - (intOf u).toNat)
 case atStart=>exact ⟨0,Nat.zero_le _,rfl,fun j hj=>absurd hj (Nat.not_lt_zero _),Below.refl _ _⟩
 case round =>
  obtain ⟨k,hk,rfl,HK,hB⟩:=hrel
  by_cases hkn:k < n
  · obtain ⟨b1,o1,rfl,hn1⟩:=(show Txs W a n S from HX.out).later hB (Nat.lt_of_le_of_lt (Nat.zero_le _) hkn)
    have c0:=hn1 k hkn
    obtain ⟨V,hV⟩:∃ V,V=wr:=⟨_,rfl⟩
    have HBV:Hid (Below W.heap.size W V):=by rw [hV];exact hB
    subst hV
    clear hn1
    have C7:=HL.out k hkn V HBV.out
    have HKN:=hid hkn
    simp only [List.append_toArray,List.cons_append,List.nil_append] at C7
    go_wp2_with (go_at_call 120;refine C7.mono ?_;clear C7;rintro e w2 ⟨z,v,rfl,hz,hv,hB2⟩;rcases hv with ⟨rfl,rfl⟩ | ⟨hz0,y,hy,rfl⟩;rotate_left;(obtain ⟨yt,yu,ey⟩:=y.iface;rw [ey]))
    · go_ret
      refine ⟨z,_,rfl,.inr ⟨hz0,k,HKN.out,HK.out,hz⟩,.inr ⟨hz0,.row k y,hy,by rw [Rfs.val,ey];rfl⟩,?_⟩
      have:=HBV.out.trans (hB2.mono HBV.out.size)
      first | exact this | exact this.alloc this.size _
    · go_roundw
      case rel =>
       refine ⟨k+1,HKN.out,by simp,fun j hj=>?_,HBV.out.trans (hB2.mono HBV.out.size)⟩
       by_cases ej:j=k
       · rw [ej];exact hz
       · exact HK.out j (by omega)
      case measure=>have:=HKN.out;simp [intOf];omega
  · have hk':k=n:=by omega
    subst hk'
    go_wp2
    go_ret
    exact ⟨0,_,rfl,.inl ⟨rfl,HK.out⟩,.inl ⟨rfl,rfl⟩,hB⟩
end Go.Proofs.YtkfpgkohkhhlhaaGreatDoor
