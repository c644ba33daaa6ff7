/- Texts that the last one stands on. -/
import Derived.Test.YtkfpgkohkhhlhaaGreatDoorHWlAhead
import Derived.Test.YtkfpgkohkhhlhaaGreatDoorHTypCalls
set_option maxRecDepth 100000
set_option maxHeartbeats 8000000
namespace Go.Proofs.YtkfpgkohkhhlhaaGreatDoor
open Go.RowKit
abbrev lookW (x:Pt) (ns:Nat) (Q:Nat→Sch):ByteArray→ByteArray→Option Int:=lookN (fstL x).length (fstV x) (fstT x) ns Q
structure Ctx (w0 W:World) (b:Nat) (bk:Value) (q:Qy) (ns:Nat) (Q:Nat→Sch) (N T:Addr):Prop where
 below:Below w0.heap.size w0 W
 ask:Asked W b bk q ns Q
 new:newZ (fstL q.p).length (fstL q.p).length (fstT q.p) ns Q=0
 isq:IsQ w0 q
 ok:QOk q
 sm:q.bulk≤1048576
 sens:Sens w0 N T
theorem Asked.later {W W':World} {b:Nat} {bk:Value} {q:Qy} {ns:Nat} {Q:Nat→Sch} (h:Asked W b bk q ns Q) (hB:Below W.heap.size W W'):Asked W' b bk q ns Q:=by
 obtain ⟨av,cv,a6,c6,a5,c5,po,h1,h2,h3,h4,h5⟩:=h
 refine ⟨av,cv,a6,c6,a5,c5,po,h1.later hB,h2.later hB,h3.later hB,h4.later hB,fun hz=>?_⟩
 obtain ⟨p,m,S,e,hn,hs⟩:=h5 hz
 exact ⟨p,m,S,e,hn.later hB,hs⟩
theorem Ctx.later {w0 W W':World} {b:Nat} {bk:Value} {q:Qy} {ns:Nat} {Q:Nat→Sch} {N T:Addr} (h:Ctx w0 W b bk q ns Q N T) (hB:Below W.heap.size W W'):Ctx w0 W' b bk q ns Q N T :=
 ⟨h.below.trans (hB.mono h.below.size),h.ask.later hB,h.new,h.isq,h.ok,h.sm,h.sens⟩
def CondR (L:ByteArray→ByteArray→Option Int) (p:Pt) (x:X) (z:Int):Prop:=∃ K E,KindIs L x K E∧z=if condZ K E=0 then (if togB p (varsX x)=true then 0 else 4) else condZ K E
theorem CondR.one {L:ByteArray→ByteArray→Option Int} {p:Pt} {x:X} {z z':Int} (h:CondR L p x z) (h':CondR L p x z'):z=z':=by
 obtain ⟨K,E,h1,rfl⟩:=h
 obtain ⟨K',E',h1',rfl⟩:=h'
 obtain ⟨rfl,rfl⟩:=h1.one h1'
 rfl
theorem condition_any (w0 W:World) (b:Nat) (bk:Value) (q:Qy) (ns:Nat) (Q:Nat→Sch) (N T:Addr) (h:Ctx w0 W b bk q ns Q N T) (x:X) (hX:IsX W x) (hxs:x.size≤1048576) :
 Calls Tryz.prog 117 #[.pointer (some ⟨b,0,none⟩),x.val] W fun e w'=>∃ z v,e=.returned v∧CondR (lookW q.p ns Q) q.p x z∧ErrW z v∧Below W.heap.size W w':=by
 have hps:q.p.size≤1048576:=by have:=h.sm;unfold Qy.bulk at this;omega
 obtain ⟨A,hA⟩:∃ A,W.alloc (.cells (cells7 x) 54)=A:=⟨_,rfl⟩
 have hBA:Below W.heap.size W A:=by rw [← hA];exact (Below.refl _ W).alloc (Nat.le_refl _) _
 have hA7:A.heap[W.heap.size]? = some (.cells (cells7 x) 54 (0,0)):=by rw [← hA];exact alloc_new W _
 have hsA:A.heap.size=W.heap.size+1:=by rw [← hA];simp
 have hC:=h.later hBA
 obtain ⟨av,cv,a6,c6,a5,c5,po,hAB,-,-,-,hJ⟩:=hC.ask
 obtain ⟨p,m,S,rfl,hnm,hsame⟩:=hJ h.new
 obtain ⟨-,-,-,d15⟩:=hAB.made
 obtain ⟨j0,j1,j2,j3,j4,j5,j6⟩:=cells7_at hA7
 have hSens:Sens A N T:=h.sens.later hC.below
 have CC:Hid (∀ d,Below A.heap.size A d→Calls Tryz.prog 152 #[.pointer (some ⟨p,0,none⟩),x.val] d _):=fun d hd=>cond_calls (.pointer (some ⟨p,0,none⟩)) (KindIs (lookW q.p ns Q) x) x d fun d' hd'=>by
  have hd2:=hd.trans (hd'.mono hd.size)
  have:=kindT_calls p m _ _ S N T x d' (hnm.later hd2) (hSens.later hd2) (hX.later (hBA.trans (hd2.mono hBA.size)))
  rw [look_same hsame] at this
  exact this
 have CV:Hid (∀ d,Below A.heap.size A d→Calls Tryz.prog 43 #[x.val] d _):=fun d hd=>vars_any x d (hX.later (hBA.trans (hd.mono hBA.size))) hxs
 have CT:Hid (∀ a cap d,Below A.heap.size A d→Txs d a (varsX x).length (atS (varsX x))→Calls Tryz.prog 153 #[.pointer (some ⟨b,0,none⟩),.slice a (varsX x).length cap] d _):=fun a cap d hd ht =>
  together_any w0 d b bk q ns Q (hC.below.trans (hd.mono hC.below.size)) (hC.ask.later hd) h.isq.p hps h.ok.p a _ cap (varsX x) ht rfl (by have:=vars_len x;omega)
 have H7:=hid hA7
 have HBA:=hid hBA
 clear h hX hxs hps hBA hC hAB hJ hnm hsame hSens hA7
 go_enter Tryz.func117,Tryz.ntmps117
 go_wp2
 go_region_with (go_at_call 152;refine (CC.out _ ?_).mono ?_;exact (Below.refl _ _).drew;rintro e w2 ⟨K,E,rfl,hK,hB2⟩)
 all_goals obtain ⟨cz,hcz⟩:∃ cz,cz=condZ K E:=⟨_,rfl⟩
 all_goals rw [← hcz]
 all_goals have hBA2:Below A.heap.size A w2:=(Below.refl _ _).drew.trans hB2
 all_goals have H7':=cells7_at ((hBA2.block _ (by omega)).trans H7.out)
 all_goals obtain ⟨k0,k1,k2,k3,k4,k5,k6⟩:=H7'
 all_goals have HK:=hid hK
 all_goals have HZ:=hid hcz
 all_goals have HB2:=hid hBA2
 all_goals clear hK hcz hBA2 hB2 CC
 all_goals by_cases h0:cz=0
 all_goals first
  | (have t0:(cz != 0)=false:=by simp [h0]
     have HC0:=hid h0
     clear h0
     cases ht:togB q.p (varsX x)
     all_goals have HT:=hid ht
     all_goals clear ht
     all_goals go_wp2_with (first
      | (go_at_call 43;refine (CV.out w2 HB2.out).mono ?_;clear CV;rintro e w3 ⟨v3,rfl,ho3,hB3⟩;obtain ⟨a3,c3,rfl⟩:=row_slice ho3;have hB3':=HB2.out.trans (hB3.mono HB2.out.size);have CT':=CT.out a3 c3 w3 hB3' (own_txs' ho3);clear CT ho3;rw [HT.out] at CT')
      | (go_at_call 153;refine CT'.mono ?_;clear CT';rintro e w4 ⟨rfl,hB4⟩)
      | (go_at_call 111;refine (refusedIf_any _ 4 _).mono ?_;rintro e w5 ⟨rfl,rfl⟩))
     all_goals go_ret
     all_goals first
      | exact ⟨4,_,rfl,⟨K,E,HK.out,by rw [← HZ.out,HC0.out,HT.out];rfl⟩,.inr ⟨by decide,.base 4,rfl,rfl⟩,HBA.out.trans ((hB3'.trans (hB4.mono hB3'.size)).mono HBA.out.size)⟩
      | exact ⟨0,_,rfl,⟨K,E,HK.out,by rw [← HZ.out,HC0.out,HT.out];rfl⟩,.inl ⟨rfl,rfl⟩,HBA.out.trans ((hB3'.trans (hB4.mono hB3'.size)).mono HBA.out.size)⟩)
  | (have t0:(cz != 0)=true:=by simp [h0]
     have HC0:=hid h0
     clear h0
     go_wp2
     go_ret
     exact ⟨cz,_,rfl,⟨K,E,HK.out,by rw [← HZ.out,if_neg HC0.out]⟩,.inr ⟨HC0.out,.base cz,rfl,rfl⟩,HBA.out.trans (HB2.out.mono HBA.out.size)⟩)
theorem conditions_any (w0 W:World) (b:Nat) (bk:Value) (q:Qy) (ns:Nat) (Q:Nat→Sch) (N T:Addr) (h:Ctx w0 W b bk q ns Q N T) :
 Calls Tryz.prog 68 #[.pointer (some ⟨b,0,none⟩)] W fun e w'=>∃ z v,e=.returned v∧FstR (fun i=>CondR (lookW q.p ns Q) q.p (q.c i)) q.n z∧ErrW z v∧Below W.heap.size W w':=by
 obtain ⟨av,cv,a6,c6,a5,c5,po,hAB,-⟩:=h.ask
 obtain ⟨d7,-⟩:=hAB.rest
 have hq:=h.isq.x
 have hsm:q.x.size≤1048576:=by have:=h.sm;unfold Qy.bulk at this;omega
 have C:=eachX_any q.a q.n q.cap q.c W hq.len (fun d hd i hi=>by
  obtain ⟨b',o',e,hn,_⟩:=(hq.later (h.below.trans (hd.mono h.below.size))).part hi
  exact ⟨b',o',e,hn⟩) (fun i=>CondR (lookW q.p ns Q) q.p (q.c i)) (.pointer (some ⟨b,0,none⟩)) (fun i hi d hd=>by
  have hC:=h.later hd
  obtain ⟨b',o',e,_,hx⟩:=(hq.later hC.below).part hi
  exact condition_any w0 d b bk q ns Q N T hC (q.c i) hx (by have:=X.size_part q.x i hi;exact Nat.le_trans (Nat.le_of_lt this) hsm))
 clear h hq hsm hAB
 go_enter Tryz.func68,Tryz.ntmps68
 go_wp2_with (go_at_call 116;refine C.mono ?_;clear C;rintro e w1 ⟨z,v,rfl,hz,hv,hB1⟩)
 go_ret
 exact ⟨z,v,rfl,hz,hv,hB1⟩
abbrev fldX (v f:ByteArray):X:=.mk 2 val0 v f none 0 0 (fun _=>.nil)
def kindF (L:ByteArray→ByteArray→Option Int) (v f:ByteArray):Int × Int:=match L v f with | some k=>(k,0) | none=>(0,6)
theorem kind_fld {L:ByteArray→ByteArray→Option Int} {v f:ByteArray} {K E:Int} (hv:nameB v=true) (hf:nameB f=true) (h:KindIs L (fldX v f) K E):K=(kindF L v f).1∧E=(kindF L v f).2:=by
 have hz:(fldX v f).size≤100:=by simp [X.size,sumN]
 have ht:TreeR (fldX v f):=⟨⟨fun _=>rfl,fun h=>absurd rfl h,.inr (.inl ⟨rfl,rfl,hv,hf⟩)⟩,fun i hi=>absurd hi (Nat.not_lt_zero _)⟩
 rcases h with ⟨_,_,h1,h2⟩ | ⟨h1,_⟩
 · rw [kindE_field rfl rfl] at h1 h2
   exact ⟨h1,h2⟩
 · exact absurd ⟨hz,ht⟩ h1
theorem kindW_any (w0 W:World) (b:Nat) (bk:Value) (q:Qy) (ns:Nat) (Q:Nat→Sch) (N T:Addr) (h:Ctx w0 W b bk q ns Q N T) (v f:ByteArray) (hv:nameB v=true) (hf:nameB f=true) :
 Calls Tryz.prog 118 #[.pointer (some ⟨b,0,none⟩),.string v,.string f] W (RV (.tuple #[.int .i64 (kindF (lookW q.p ns Q) v f).1,.int .i64 (kindF (lookW q.p ns Q) v f).2]) W):=by
 obtain ⟨av,cv,a6,c6,a5,c5,po,hAB,-,-,-,hJ⟩:=h.ask
 obtain ⟨p,m,S,rfl,hnm,hsame⟩:=hJ h.new
 obtain ⟨-,-,-,d15⟩:=hAB.made
 have C:=kindT_calls p m _ _ S N T (fldX v f) W hnm (h.sens.later h.below) ⟨Nat.le_refl _,Nat.zero_le _,fun i hi=>absurd hi (Nat.not_lt_zero _)⟩
 rw [look_same hsame] at C
 have HV:Hid _:=hv
 have HF:Hid _:=hf
 clear h hAB hJ hnm hsame hv hf
 go_enter Tryz.func118,Tryz.ntmps118
 go_wp2_with (go_at_call 154;refine C.mono ?_;clear C;rintro e w1 ⟨K,E,rfl,hK,hB1⟩;obtain ⟨rfl,rfl⟩:=kind_fld HV.out HF.out hK;clear hK)
 exact bodyPost_ret (results_tmp2 rfl _ _ _) rfl ⟨rfl,hB1⟩
def keyZ (kk:Int × Int) (k0:Int):Int:=if kk.2=0 then (if kk.1=k0 then 0 else 5) else kk.2
def KeyR (L:ByteArray→ByteArray→Option Int) (V:Nat→ByteArray) (key:ByteArray) (i:Nat) (z:Int):Prop:=z=keyZ (kindF L (V i) key) (kindF L (V 0) key).1
theorem key1_any (w0 W:World) (b:Nat) (bk:Value) (q:Qy) (ns:Nat) (Q:Nat→Sch) (N T:Addr) (h:Ctx w0 W b bk q ns Q N T) (v:ByteArray) (hv:nameB v=true) (hf:nameB q.key=true) (B1 B2:Nat) (k0:Int) (h1:W.cell? ⟨B1,0,none⟩=some (.pointer (some ⟨b,0,none⟩))) (h2:W.cell? ⟨B2,0,none⟩=some (.int .i64 k0)) :
 Calls Tryz.prog 120 #[.string v,.pointer (some ⟨B1,0,none⟩),.pointer (some ⟨B2,0,none⟩)] W fun e w'=>∃ z r,e=.returned r∧z=keyZ (kindF (lookW q.p ns Q) v q.key) k0∧ErrW z r∧Below W.heap.size W w':=by
 obtain ⟨av,cv,a6,c6,a5,c5,po,hAB,-⟩:=h.ask
 obtain ⟨-,d8,-⟩:=hAB.rest
 have C:Hid (∀ d,Below W.heap.size W d→Calls Tryz.prog 118 _ d _):=fun d hd=>kindW_any w0 d b bk q ns Q N T (h.later hd) v q.key hv hf
 obtain ⟨kk,hkk⟩:∃ kk,kk=kindF (lookW q.p ns Q) v q.key:=⟨_,rfl⟩
 rw [← hkk] at C ⊢
 have H2:=hid h2
 clear h hAB hv hf hkk h2
 go_enter Tryz.func120,Tryz.ntmps120
 go_wp2
 go_region_with (go_at_call 118;refine (C.out _ ?_).mono ?_;exact (Below.refl _ _).drew;rintro e w2 ⟨rfl,hB2⟩)
 all_goals have hBW:Below W.heap.size W w2:=(Below.refl _ _).drew.trans hB2
 all_goals have c2:=cell_later H2.out hBW
 all_goals by_cases e0:kk.2=0
 all_goals first
  | (have t0:(kk.2 != 0)=false:=by simp [e0]
     by_cases e1:kk.1=k0
     all_goals first
      | (have t1:(kk.1 != k0)=false:=by simp [e1]
         have HE:Hid (0=keyZ kk k0):=by show _=_;rw [keyZ,if_pos e0,if_pos e1]
         clear e0 e1
         go_wp2_with (go_at_call 111;refine (refusedIf_any false 5 _).mono ?_;rintro e w3 ⟨rfl,rfl⟩)
         go_ret
         exact ⟨0,_,rfl,HE.out,.inl ⟨rfl,rfl⟩,hBW⟩)
      | (have t1:(kk.1 != k0)=true:=by simp [e1]
         have HE:Hid (5=keyZ kk k0):=by show _=_;rw [keyZ,if_pos e0,if_neg e1]
         clear e0 e1
         go_wp2_with (go_at_call 111;refine (refusedIf_any true 5 _).mono ?_;rintro e w3 ⟨rfl,rfl⟩)
         go_ret
         exact ⟨5,_,rfl,HE.out,.inr ⟨by decide,.base 5,rfl,rfl⟩,hBW⟩))
  | (have t0:(kk.2 != 0)=true:=by simp [e0]
     have HE:Hid (kk.2=keyZ kk k0):=by show _=_;rw [keyZ,if_neg e0]
     have HE0:=hid e0
     clear e0
     go_wp2
     go_ret
     exact ⟨kk.2,_,rfl,HE.out,.inr ⟨HE0.out,.base kk.2,rfl,rfl⟩,hBW⟩)
structure Fine (q:Qy):Prop where
 p:chkP q.p=0
 key:q.key=⟨#[]⟩ ∨ nameB q.key=true
 it:∀ i,i < q.m→rightI (q.it i)=true
 v:∀ j,j < (fstL q.p).length→nameB (fstV q.p j)=true
 pos:0 < (fstL q.p).length
theorem uses_some:∀ {x:Pt},rightP x=true→usesP x ≠ []:=by
 refine @(Pt.ind fun x ih h=>?_)
 rw [rightP_eq,Bool.and_eq_true,allN_true] at h
 rw [usesP_eq]
 by_cases hk:nmd x.k=true
 · rw [if_pos hk];simp
 · have h1:=h.1
   unfold rightN at h1
   simp only [nmd,Bool.or_eq_true,beq_iff_eq,not_or] at hk
   rw [if_neg (show ¬ x.k=5 from hk.1.2),if_neg (show ¬ (x.k=1 ∨ x.k=6) from fun q=>q.elim hk.1.1 hk.2)] at h1
   split at h1
   · simp only [rowB,Bool.and_eq_true,decide_eq_true_eq] at h1
     have h0:0 < x.n:=by omega
     have:=ih 0 h0 (h.2 0 h0)
     obtain ⟨y,hy⟩:=List.exists_mem_of_ne_nil _ this
     exact List.ne_nil_of_mem (List.mem_append.2 (.inr (mem_catN.2 ⟨0,h0,hy⟩)))
   · cases h1
theorem use_name {x y:Pt} (h:rightP x=true) (hy:y ∈ usesP x):nameB y.s=true∧nameB y.t=true:=by
 obtain ⟨d,hv,hk⟩:=mem_uses.1 hy
 have:=(right_vis x 1).1 h (d,y) hv
 unfold rightN at this
 simp only [nmd,Bool.or_eq_true,beq_iff_eq] at hk
 rcases hk with (hk | hk) | hk
 all_goals simp [isRow,hk,leafB,manyB] at this
 all_goals exact ⟨this.1,this.2.1⟩
theorem fine_of {q:Qy} (h:chkQ q=0):Fine q:=by
 have h':∀ i,i < 9→clN q i=0:=lexN_zero.1 h
 have hp:chkP q.p=0:=h' 0 (by omega)
 have hr:=(chkP_zero.1 hp).2.2
 have hpos:0 < (fstL q.p).length:=by
  rw [List.length_pos_iff]
  intro e
  obtain ⟨y,hy⟩:=List.exists_mem_of_ne_nil _ (uses_some hr)
  obtain ⟨f,hf,_⟩:=firstL_has hy
  rw [show firstL (usesP q.p)=[] from e] at hf
  cases hf
 refine ⟨hp,?_,?_,fun j hj=>?_,hpos⟩
 · have:argB (decide (q.key=⟨#[]⟩) || nameB q.key)=0:=h' 5 (by omega)
   unfold argB at this
   split at this
   · rename_i hh
     simpa using hh
   · cases this
 · have:cl9 q=0:=h' 8 (by omega)
   unfold cl9 at this
   split at this
   · rename_i hh;exact hh.1
   · cases this
 · have hm:(fstL q.p)[j] ∈ usesP q.p:=mem_firstL (List.getElem_mem hj)
   have:=(use_name hr hm).1
   simpa [fstV,atS,hj] using this
theorem key_any (w0 W:World) (b:Nat) (bk:Value) (q:Qy) (ns:Nat) (Q:Nat→Sch) (N T:Addr) (h:Ctx w0 W b bk q ns Q N T) (hF:Fine q) (hk:¬ q.key=⟨#[]⟩) :
 Calls Tryz.prog 69 #[.pointer (some ⟨b,0,none⟩)] W fun e w'=>∃ z v,e=.returned v∧FstR (KeyR (lookW q.p ns Q) (fstV q.p) q.key) (fstL q.p).length z∧ErrW z v∧Below W.heap.size W w':=by
 have hkn:nameB q.key=true:=hF.key.resolve_left hk
 obtain ⟨A,hA⟩:∃ A,W.alloc (.cells #[.pointer (some ⟨b,0,none⟩)] 56)=A:=⟨_,rfl⟩
 have hBA:Below W.heap.size W A:=by rw [← hA];exact (Below.refl _ W).alloc (Nat.le_refl _) _
 have hbA:Boxed A W.heap.size 56 (.pointer (some ⟨b,0,none⟩)):=by rw [← hA];exact Boxed.new W _ _
 have hC:=h.later hBA
 obtain ⟨av,cv,a6,c6,a5,c5,po,hAB,hTx,-⟩:=hC.ask
 obtain ⟨g,o,rfl,hcs⟩:=hTx hF.pos
 obtain ⟨-,d8,-⟩:=hAB.rest
 have c1:=hbA.cell
 obtain ⟨kk,hkk⟩:∃ kk,kk=kindF (lookW q.p ns Q) (fstV q.p 0) q.key:=⟨_,rfl⟩
 have CK:Hid (∀ d,Below A.heap.size A d→Calls Tryz.prog 118 #[.pointer (some ⟨b,0,none⟩),.string (fstV q.p 0),.string q.key] d (RV (.tuple #[.int .i64 kk.1,.int .i64 kk.2]) d)):=fun d hd=>by rw [hkk];exact kindW_any w0 d b bk q ns Q N T (hC.later hd) _ _ (hF.v 0 hF.pos) hkn
 have HCE:Hid (∀ (g0:Nat) (Z:World),Below A.heap.size A Z→Z.cell? ⟨g0,0,none⟩=some (.int .i64 kk.1)→Calls Tryz.prog 119 #[.slice (some ⟨g,o,none⟩) (fstL q.p).length cv,.func (.func 120) #[] #[.pointer (some ⟨W.heap.size,0,none⟩),.pointer (some ⟨g0,0,none⟩)]] Z fun e w'=>∃ z v,e=.returned v∧FstR (KeyR (lookW q.p ns Q) (fstV q.p) q.key) (fstL q.p).length z∧ErrW z v∧Below Z.heap.size Z w'):=fun g0 Z hZ hg=>by
  refine eachS_any (some ⟨g,o,none⟩) _ cv (fstV q.p) Z ?_ (hTx.later hZ) (KeyR (lookW q.p ns Q) (fstV q.p) q.key) _ _ fun i hi d hd=>?_
  · have h1:=length_firstL (usesP q.p)
    have h2:=length_uses q.p
    have h3:=h.sm
    unfold Qy.bulk at h3
    show (firstL (usesP q.p)).length≤_
    omega
  · have hd2:=hZ.trans (hd.mono hZ.size)
    have:=key1_any w0 d b bk q ns Q N T (hC.later hd2) (fstV q.p i) (hF.v i hi) hkn W.heap.size g0 kk.1 (cell_later c1 hd2) (cell_later hg hd)
    refine this.mono ?_
    rintro e w' ⟨z,r,rfl,hz,hr,hB⟩
    exact ⟨z,r,rfl,by rw [hz,hkk];rfl,hr,hB⟩
 have HFIN:Hid (∀ z,FstR (KeyR (lookW q.p ns Q) (fstV q.p) q.key) (fstL q.p).length z→FstR (KeyR (lookW q.p ns Q) (fstV q.p) q.key) (fstL q.p).length z):=fun _ h=>h
 have HC1:=hid c1
 have HV0:Hid (A.cell? ⟨g,o,none⟩=some (.string (fstV q.p 0))):=hcs 0 hF.pos
 have HAB1:=hid hAB
 have HBW1:=hid hBA
 have hpos:0 < (fstL q.p).length:=hF.pos
 have ts:q.key.toList.isEmpty=false:=by
  have h9:=str_not hk
  rw [show (⟨#[]⟩:ByteArray).toList=[] by rw [ByteArray.toList_eq]] at h9
  cases e:q.key.toList with
  | nil=>rw [e] at h9;cases h9
  | cons _ _=>rfl
 obtain ⟨n,hn⟩:∃ n,n=(fstL q.p).length:=⟨_,rfl⟩
 rw [← hn] at HCE HFIN HAB1 hpos ⊢
 obtain ⟨W1,hW1⟩:∃ W1,W1=A:=⟨_,rfl⟩
 clear h hF hk hkn hC hAB hTx hcs hkk hBA hbA hn
 go_enter Tryz.func69,Tryz.ntmps69
 go_wp2
 rw [← hW1] at HCE HC1 HV0 HAB1 HBW1 CK ⊢
 clear hW1
 refine bg fun d hHeld=>?_
 have hT:=hHeld
 refine tk 0 ?_ (hy:=fun w9 hSw=>by have cc:=cell_later HC1.out hSw;go_simp;(try with_reducible rfl))
 refine tk 1 ?_ (hy:=fun w9 hSw=>by have cc:=cell_later HC1.out hSw;go_simp;(try with_reducible rfl))
 refine tk 2 ?_
 refine tk 3 ?_
 refine tk 4 ?_ (hy:=fun w9 hSw=>by obtain ⟨g12,-⟩:=(HAB1.out.later hSw).made;go_simp;(try with_reducible rfl))
 refine tk 5 ?_
 refine tk 6 ?_ (hy:=fun w9 hSw=>by have cc:=cell_later HV0.out hSw;go_simp;(try with_reducible rfl))
 refine tk 7 ?_ (hy:=fun w9 hSw=>by have cc:=cell_later HC1.out hSw;go_simp;(try with_reducible rfl))
 refine tk 8 ?_
 refine tk 9 ?_
 refine tk 10 ?_
 refine tk 11 ?_ (hy:=fun w9 hSw=>by obtain ⟨-,g8,-⟩:=(HAB1.out.later hSw).rest;go_simp;(try with_reducible rfl))
 refine wpAnyH_ready (rs:=[12,16]) (by kernel_rfl) (by simp) ?_
 refine AllReadyH.cons (o:=⟨some 24,.call { callee:=.value (.func 118),args:=#[.tmp 12,.tmp 18,.tmp 23],argTypes:=#[56,9,9] },175,_,_,_⟩) rfl (fun K hK=>?wayA) (AllReadyH.cons (o:=⟨some 3,.alloc 3,0,_,_,_⟩) rfl (fun K hK=>?wayB) AllReadyH.nil)
 case wayA =>
  go_simp
  refine (CK.out d hT).mono ?_
  rintro e x12 ⟨rfl,hN12⟩
  go_wp2_with fail
  have hT8:Below W1.heap.size W1 x12:=hT.trans (hN12.mono hT.size)
  refine hK.out _ _ hT8 (fun hHeld=>?_)
  clear hK K hT;have hT:Below W1.heap.size W1 x12:=hT8;clear hT8
  try simp only [Act.put,s_put,s_0,s_1]
  refine tk 13 ?_
  refine tk 14 ?_
  refine tk 15 ?_
  refine rd 16 fun K hK=>?_
  go_simp
  have hT2:Below W1.heap.size W1 (x12.alloc (.cells #[.int .i64 0] 3)):=hT.alloc hT.size _
  refine hK.out _ _ hT2 (fun hHeld=>?_)
  clear hK K
  try simp only [Act.put,s_put,s_0,s_1]
  refine rd 17 fun K hK=>?_
  go_simp
  obtain ⟨Z,hZ⟩:∃ Z,x12.alloc (.cells #[.int .i64 kk.1] 3)=Z:=⟨_,rfl⟩
  have hTZ:Below W1.heap.size W1 Z:=by rw [← hZ];exact hT.alloc hT.size _
  have hbZ:Boxed Z x12.heap.size 3 (.int .i64 kk.1):=by rw [← hZ];exact Boxed.new x12 _ _
  first | rw [hZ] | skip
  refine hK.out _ _ hTZ (fun hHeld=>?_)
  clear hK K
  try simp only [Act.put,s_put,s_0,s_1]
  refine tk 18 ?_
  refine dn ?_
  have CE:=HCE.out x12.heap.size Z hTZ hbZ.cell
  have cz1:=cell_later HC1.out hTZ
  obtain ⟨cz12,-⟩:=(HAB1.out.later hTZ).made
  clear hHeld hbZ hZ
  go_wp2_with (go_at_call 119;refine CE.mono ?_;clear CE;rintro e w4 ⟨z4,v4,rfl,hz4,hv4,hB4⟩)
  go_ret
  exact ⟨z4,v4,rfl,HFIN.out z4 hz4,hv4,HBW1.out.trans ((hTZ.trans (hB4.mono hTZ.size)).mono HBW1.out.size)⟩
 case wayB =>
  go_simp
  have hT2:Below W1.heap.size W1 (d.alloc (.cells #[.int .i64 0] 3)):=hT.alloc hT.size _
  refine hK.out _ _ hT2 (fun hHeld=>?_)
  clear hK K
  try simp only [Act.put,s_put,s_0,s_1]
  obtain ⟨e9,he9⟩:∃ e9,e9=d.alloc (.cells #[.int .i64 0] 3):=⟨_,rfl⟩
  have hb9:Boxed e9 d.heap.size 3 (.int .i64 0):=by rw [he9];exact Boxed.new d _ _
  have hsd:W1.heap.size≤d.heap.size:=hT.size
  rw [← he9] at hT2 hHeld ⊢
  clear hT;have hT:=hT2;clear hT2 he9
  refine rd 12 fun K hK=>?_
  go_simp
  refine (CK.out e9 hT).mono ?_
  rintro e x12 ⟨rfl,hN12⟩
  go_wp2_with fail
  have hT8:Below W1.heap.size W1 x12:=hT.trans (hN12.mono hT.size)
  refine hK.out _ _ hT8 (fun hHeld=>?_)
  clear hK K hT;have hT:Below W1.heap.size W1 x12:=hT8;clear hT8
  try simp only [Act.put,s_put,s_0,s_1]
  refine tk 13 ?_
  refine tk 14 ?_
  refine tk 15 ?_
  have bb:=Boxed.kept_of hb9 hN12 hb9.lt
  have bc:=bb.cell
  have bf:=bb.frozen
  refine rd 17 fun K hK=>?_
  go_simp
  obtain ⟨Z,hZ⟩:∃ Z,x12.setCell ⟨d.heap.size,0,none⟩ (.int .i64 kk.1)=Z:=⟨_,rfl⟩
  have hTZ:Below W1.heap.size W1 Z:=by rw [← hZ];exact hT.setCell (p:=⟨d.heap.size,0,none⟩) hsd _
  have hbZ:Boxed Z d.heap.size 3 (.int .i64 kk.1):=by rw [← hZ];exact bb.set _
  first | rw [hZ] | skip
  refine hK.out _ _ hTZ (fun hHeld=>?_)
  clear hK K
  try simp only [Act.put,s_put,s_0,s_1]
  refine tk 18 ?_
  refine dn ?_
  have CE:=HCE.out d.heap.size Z hTZ hbZ.cell
  have cz1:=cell_later HC1.out hTZ
  obtain ⟨cz12,-⟩:=(HAB1.out.later hTZ).made
  clear hHeld hbZ hZ
  go_wp2_with (go_at_call 119;refine CE.mono ?_;clear CE;rintro e w4 ⟨z4,v4,rfl,hz4,hv4,hB4⟩)
  go_ret
  exact ⟨z4,v4,rfl,HFIN.out z4 hz4,hv4,HBW1.out.trans ((hTZ.trans (hB4.mono hTZ.size)).mono HBW1.out.size)⟩
def itemZ (L:ByteArray→ByteArray→Option Int) (p:Pt) (x:It):Int :=
 if memB ((fstL p).map (·.s)) x.s=true then
  (if memB (ofK 6 (ndP p)) x.s=true then 6
   else if x.k=3 then 0
   else if (kindF L x.s x.f).2=0 then (if x.k=4∧¬ (kindF L x.s x.f).1=2 then 5 else 0)
   else (kindF L x.s x.f).2)
 else 6
theorem item_cells {w:World} {B:Nat} {t:TypeId} {x:It} (h:w.heap[B]? = some (.cells x.cells t (0,0))):w.cell? ⟨B,0,none⟩=some (.string x.nm)∧w.cell? ⟨B,1,none⟩=some (.int .i64 x.k)∧w.cell? ⟨B,2,none⟩=some (.string x.s)∧w.cell? ⟨B,3,none⟩=some (.string x.f):=by
 refine ⟨?_,?_,?_,?_⟩ <;> simp [World.cell?,h]
theorem drewN_below (w:World) (q:Nat):Below w.heap.size w (w.drewN q):=⟨rfl,rfl,rfl,Nat.le_refl _,fun _ _=>rfl⟩
theorem item_any (w0 W:World) (b:Nat) (bk:Value) (q:Qy) (ns:Nat) (Q:Nat→Sch) (N T:Addr) (h:Ctx w0 W b bk q ns Q N T) (x:It) (hx:rightI x=true) :
 Calls Tryz.prog 122 #[.pointer (some ⟨b,0,none⟩),x.val] W fun e w'=>∃ z v,e=.returned v∧z=itemZ (lookW q.p ns Q) q.p x∧ErrW z v∧Below W.heap.size W w':=by
 obtain ⟨A,hA⟩:∃ A,W.alloc (.cells x.cells 77)=A:=⟨_,rfl⟩
 have hBA:Below W.heap.size W A:=by rw [← hA];exact (Below.refl _ W).alloc (Nat.le_refl _) _
 have hA4:A.heap[W.heap.size]? = some (.cells x.cells 77 (0,0)):=by rw [← hA];exact alloc_new W _
 have hsA:A.heap.size=W.heap.size+1:=by rw [← hA];simp
 have hC:=h.later hBA
 obtain ⟨av,cv,a6,c6,a5,c5,po,hAB,hTx,h6,-⟩:=hC.ask
 have l6:=ofK_len 6 (ndP q.p)
 rw [length_ndP] at l6
 have hps:q.p.size≤1048576:=by have:=h.sm;unfold Qy.bulk at this;omega
 have lv:(fstL q.p).length≤1048576:=by
  have h1:=length_firstL (usesP q.p)
  have h2:=length_uses q.p
  show (firstL (usesP q.p)).length≤_
  omega
 have CV:Hid (∀ d,Below A.heap.size A d→Calls Tryz.prog 42 #[.slice av (fstL q.p).length cv,.string x.s] d (RV (.bool (memB ((fstL q.p).map (·.s)) x.s)) d)):=fun d hd=>(containsS_any av _ cv ((fstL q.p).map (·.s)) x.s d (hTx.later hd) (by simp) (by omega)).mono fun e w' ⟨h1,k,h2⟩=>⟨h1,by rw [h2];exact drewN_below _ _⟩
 have C6:Hid (∀ d,Below A.heap.size A d→Calls Tryz.prog 42 #[.slice a6 (ofK 6 (ndP q.p)).length c6,.string x.s] d (RV (.bool (memB (ofK 6 (ndP q.p)) x.s)) d)):=fun d hd=>(containsS_any a6 _ c6 (ofK 6 (ndP q.p)) x.s d (h6.later hd) rfl (by omega)).mono fun e w' ⟨h1,k,h2⟩=>⟨h1,by rw [h2];exact drewN_below _ _⟩
 have hnm:nameB x.s=true∧(¬ x.k=3→nameB x.f=true):=by
  simp only [rightI,Bool.and_eq_true] at hx
  refine ⟨hx.2.1,fun h3=>?_⟩
  have:=hx.2.2.2.2
  rwa [if_neg h3] at this
 have CK:Hid (¬ x.k=3→∀ d,Below A.heap.size A d→Calls Tryz.prog 118 #[.pointer (some ⟨b,0,none⟩),.string x.s,.string x.f] d (RV (.tuple #[.int .i64 (kindF (lookW q.p ns Q) x.s x.f).1,.int .i64 (kindF (lookW q.p ns Q) x.s x.f).2]) d)):=fun h3 d hd=>kindW_any w0 d b bk q ns Q N T (hC.later hd) _ _ hnm.1 (hnm.2 h3)
 obtain ⟨m1,hm1⟩:∃ m1,m1=memB ((fstL q.p).map (·.s)) x.s:=⟨_,rfl⟩
 obtain ⟨m6,hm6⟩:∃ m6,m6=memB (ofK 6 (ndP q.p)) x.s:=⟨_,rfl⟩
 obtain ⟨kk,hkk⟩:∃ kk,kk=kindF (lookW q.p ns Q) x.s x.f:=⟨_,rfl⟩
 have HZ:Hid (itemZ (lookW q.p ns Q) q.p x=if m1=true then (if m6=true then 6 else if x.k=3 then 0 else if kk.2=0 then (if x.k=4∧¬ kk.1=2 then 5 else 0) else kk.2) else 6):=by rw [hm1,hm6,hkk];rfl
 obtain ⟨r,hr⟩:∃ r,r=itemZ (lookW q.p ns Q) q.p x:=⟨_,rfl⟩
 rw [← hr] at HZ ⊢
 rw [← hm1] at CV
 rw [← hm6] at C6
 rw [← hkk] at CK
 obtain ⟨d12,d13,-,-⟩:=hAB.made
 obtain ⟨j0,j1,j2,j3⟩:=itAt_box hA4
 simp only [Nat.zero_add] at j1 j2 j3
 have HAB:=hid hAB
 have H4:=hid hA4
 have HBA:=hid hBA
 clear h hx hBA hC hAB hTx h6 l6 hps lv hnm hm1 hm6 hkk hr hA4
 cases m1 with
 | false =>
   have HR:Hid (6=r):=by show _=_;rw [HZ.out];rfl
   clear HZ C6 CK
   go_enter Tryz.func122,Tryz.ntmps122
   go_wp2
   refine bg fun d hHeld=>?_
   have hT:=hHeld
   refine tk 0 ?_
   refine tk 1 ?_
   refine tk 2 ?_
   refine tk 3 ?_ (hy:=fun w9 hSw=>by obtain ⟨g12,g13,-,-⟩:=(HAB.out.later hSw).made;go_simp;(try with_reducible rfl))
   refine tk 4 ?_
   refine tk 5 ?_ (hy:=fun w9 hSw=>by obtain ⟨-,-,i2,-⟩:=item_cells (((hSw).block _ (by omega)).trans H4.out);go_simp;(try with_reducible rfl))
   refine rd 6 fun K hK=>?_
   go_simp
   refine (CV.out _ hT).mono ?_
   rintro e x6 ⟨rfl,hN6⟩
   go_wp2_with fail
   refine up hK hHeld hN6 ?_
   replace hT:=hT.trans (hN6.mono hT.size)
   replace hHeld:=Below.refl x6.heap.size x6
   clear hK K hN6
   refine tk 7 ?_
   refine tk 8 ?_
   refine tn 9 ?_
   refine tn 10 ?_
   refine tn 11 ?_
   refine tn 12 ?_
   refine tn 13 ?_
   refine tn 14 ?_
   refine tn 15 ?_
   refine tk 16 ?_
   refine dn ?_
   obtain ⟨V,hV⟩:∃ V,V=x6:=⟨_,rfl⟩
   rw [← hV] at hT ⊢
   clear hV hHeld
   go_wp2
   go_ret
   exact ⟨6,_,rfl,HR.out,.inr ⟨by decide,.base 6,rfl,rfl⟩,HBA.out.trans (hT.mono HBA.out.size)⟩
 | true =>
   rw [if_pos rfl] at HZ
   go_enter Tryz.func122,Tryz.ntmps122
   go_wp2
   refine bg fun d hHeld=>?_
   have hT:=hHeld
   refine tk 0 ?_
   refine tk 1 ?_
   refine tk 2 ?_
   refine tk 3 ?_ (hy:=fun w9 hSw=>by obtain ⟨g12,g13,-,-⟩:=(HAB.out.later hSw).made;go_simp;(try with_reducible rfl))
   refine tk 4 ?_
   refine tk 5 ?_ (hy:=fun w9 hSw=>by obtain ⟨-,-,i2,-⟩:=item_cells (((hSw).block _ (by omega)).trans H4.out);go_simp;(try with_reducible rfl))
   refine rd 6 fun K hK=>?_
   go_simp
   refine (CV.out _ hT).mono ?_
   rintro e x6 ⟨rfl,hN6⟩
   go_wp2_with fail
   refine up hK hHeld hN6 ?_
   replace hT:=hT.trans (hN6.mono hT.size)
   replace hHeld:=Below.refl x6.heap.size x6
   clear hK K hN6
   refine tk 7 ?_
   refine tk 8 ?_
   refine tk 9 ?_
   refine tk 10 ?_
   refine tk 11 ?_
   refine tk 12 ?_ (hy:=fun w9 hSw=>by obtain ⟨g12,g13,-,-⟩:=(HAB.out.later (hT.trans (hSw.mono hT.size))).made;go_simp;(try with_reducible rfl))
   refine tk 13 ?_
   refine tk 14 ?_ (hy:=fun w9 hSw=>by obtain ⟨-,-,i2,-⟩:=item_cells ((((hT.trans (hSw.mono hT.size))).block _ (by omega)).trans H4.out);go_simp;(try with_reducible rfl))
   refine rd 15 fun K hK=>?_
   go_simp
   refine (C6.out _ hT).mono ?_
   rintro e x15 ⟨rfl,hN15⟩
   go_wp2_with fail
   refine up hK hHeld hN15 ?_
   replace hT:=hT.trans (hN15.mono hT.size)
   replace hHeld:=Below.refl x15.heap.size x15
   clear hK K hN15
   refine tk 16 ?_
   refine dn ?_
   obtain ⟨V,hV⟩:∃ V,V=x15:=⟨_,rfl⟩
   rw [← hV] at hT ⊢
   clear hV hHeld
   have HT:=hid hT
   have HW:Hid (Below W.heap.size W V):=HBA.out.trans (hT.mono HBA.out.size)
   obtain ⟨i0,i1,i2,i3⟩:=item_cells ((hT.block _ (by omega)).trans H4.out)
   clear hT CV C6
   cases m6 with
   | true =>
     have HR:Hid (6=r):=by show _=_;rw [HZ.out];rfl
     clear HZ CK
     go_wp2
     go_ret
     exact ⟨6,_,rfl,HR.out,.inr ⟨by decide,.base 6,rfl,rfl⟩,HW.out⟩
   | false =>
     rw [if_neg (by decide)] at HZ
     by_cases h3:x.k=3
     · have HR:Hid (0=r):=by show _=_;rw [HZ.out,if_pos h3]
       have t3:(x.k == 3)=true:=by simp [h3]
       clear HZ CK h3
       go_wp2
       go_ret
       exact ⟨0,_,rfl,HR.out,.inl ⟨rfl,rfl⟩,HW.out⟩
     · have t3:(x.k == 3)=false:=by simp [h3]
       rw [if_neg h3] at HZ
       have CK':=CK.out h3 V HT.out
       clear CK h3
       by_cases e0:kk.2=0
       · have t0:(kk.2 != 0)=false:=by simp [e0]
         rw [if_pos e0] at HZ
         by_cases h4:x.k=4
         · have t4:(x.k == 4)=true:=by simp [h4]
           by_cases h5:kk.1=2
           · have HR:Hid (0=r):=by show _=_;rw [HZ.out,if_neg (fun q=>q.2 h5)]
             have t5:(kk.1 != 2)=false:=by simp [h5]
             clear HZ h4 h5 e0
             go_wp2_with (first
              | (go_at_call 118;refine CK'.mono ?_;clear CK';rintro e w2 ⟨rfl,hB2⟩;obtain ⟨-,k1,-,-⟩:=item_cells (((HT.out.trans (hB2.mono HT.out.size)).block _ (by omega)).trans H4.out))
              | (go_at_call 111;refine (refusedIf_any _ 5 _).mono ?_;rintro e w3 ⟨rfl,rfl⟩))
             go_ret
             exact ⟨0,_,rfl,HR.out,.inl ⟨rfl,rfl⟩,HW.out.trans (hB2.mono HW.out.size)⟩
           · have HR:Hid (5=r):=by show _=_;rw [HZ.out,if_pos ⟨h4,h5⟩]
             have t5:(kk.1 != 2)=true:=by simp [h5]
             clear HZ h4 h5 e0
             go_wp2_with (first
              | (go_at_call 118;refine CK'.mono ?_;clear CK';rintro e w2 ⟨rfl,hB2⟩;obtain ⟨-,k1,-,-⟩:=item_cells (((HT.out.trans (hB2.mono HT.out.size)).block _ (by omega)).trans H4.out))
              | (go_at_call 111;refine (refusedIf_any _ 5 _).mono ?_;rintro e w3 ⟨rfl,rfl⟩))
             go_ret
             exact ⟨5,_,rfl,HR.out,.inr ⟨by decide,.base 5,rfl,rfl⟩,HW.out.trans (hB2.mono HW.out.size)⟩
         · have t4:(x.k == 4)=false:=by simp [h4]
           have HR:Hid (0=r):=by show _=_;rw [HZ.out,if_neg (fun q=>h4 q.1)]
           clear HZ h4 e0
           go_wp2_with (first
            | (go_at_call 118;refine CK'.mono ?_;clear CK';rintro e w2 ⟨rfl,hB2⟩;obtain ⟨-,k1,-,-⟩:=item_cells (((HT.out.trans (hB2.mono HT.out.size)).block _ (by omega)).trans H4.out))
            | (go_at_call 111;refine (refusedIf_any _ 5 _).mono ?_;rintro e w3 ⟨rfl,rfl⟩))
           go_ret
           exact ⟨0,_,rfl,HR.out,.inl ⟨rfl,rfl⟩,HW.out.trans (hB2.mono HW.out.size)⟩
       · have t0:(kk.2 != 0)=true:=by simp [e0]
         have HR:Hid (kk.2=r):=by show _=_;rw [HZ.out,if_neg e0]
         have HE0:=hid e0
         clear HZ e0
         go_wp2_with (first
          | (go_at_call 118;refine CK'.mono ?_;clear CK';rintro e w2 ⟨rfl,hB2⟩))
         go_ret
         exact ⟨kk.2,_,rfl,HR.out,.inr ⟨HE0.out,.base kk.2,rfl,rfl⟩,HW.out.trans (hB2.mono HW.out.size)⟩
theorem items_any (w0 W:World) (b:Nat) (bk:Value) (q:Qy) (ns:Nat) (Q:Nat→Sch) (N T:Addr) (h:Ctx w0 W b bk q ns Q N T) (hF:Fine q) :
 Calls Tryz.prog 70 #[.pointer (some ⟨b,0,none⟩)] W fun e w'=>∃ z v,e=.returned v∧FstR (fun i z=>z=itemZ (lookW q.p ns Q) q.p (q.it i)) q.m z∧ErrW z v∧Below W.heap.size W w':=by
 obtain ⟨av,cv,a6,c6,a5,c5,po,hAB,-⟩:=h.ask
 obtain ⟨-,-,-,-,d11⟩:=hAB.rest
 have C:=eachI_any q.ia q.m q.icap q.it W (by have:=h.isq.len;omega) (fun d hd=>h.isq.it.later (h.below.trans (hd.mono h.below.size))) (fun i z=>z=itemZ (lookW q.p ns Q) q.p (q.it i)) (.pointer (some ⟨b,0,none⟩)) (fun i hi d hd=>item_any w0 d b bk q ns Q N T (h.later hd) (q.it i) (hF.it i hi))
 clear h hF hAB
 go_enter Tryz.func70,Tryz.ntmps70
 go_wp2_with (go_at_call 121;refine C.mono ?_;clear C;rintro e w1 ⟨z,v,rfl,hz,hv,hB1⟩)
 go_ret
 exact ⟨z,v,rfl,hz,hv,hB1⟩
open Go.Extern.Stop Go.Stop Go.Extern
abbrev tgtV (b:Nat):Value:=.iface 67 (.pointer (some ⟨b,0,none⟩))
theorem as_nil (b:Nat) (w:World):Calls Tryz.prog 23 #[.nilIface,tgtV b] w fun e w'=>e=.returned (.bool false)∧w'=w:=by
 go_enter Tryz.func23,Tryz.ntmps23
 go_wp2
 go_ret
 exact ⟨rfl,rfl⟩
theorem as_any (y:Rfs) (b:Nat) (z:Int) (w:World) (hb:Boxed w b 63 (.int .i64 z)) (hE:w.cell? ⟨0,0,none⟩=some (rty 66)) :
 Calls Tryz.prog 23 #[y.val,tgtV b] w fun e w'=>e=.returned (.bool true)∧Boxed w' b 63 (.int .i64 y.root)∧Below b w w':=by
 have vO:=Tryz.asValueOf
 have tT:=Tryz.asType
 have kP:=Tryz.asKindP
 have kR:=Tryz.asKindR
 have eT:=Tryz.asElemT
 have iM:=Tryz.asImpl
 have mK:=Tryz.asMKind
 have mE:=Tryz.asMElem
 have mI:=Tryz.asMImpl
 obtain ⟨A,hA⟩:∃ A,w.alloc (.cells #[.pointer (some ⟨b,0,none⟩)] 67)=A:=⟨_,rfl⟩
 have hBA:Below w.heap.size w A:=by rw [← hA];exact nwB w _
 have hvb:A.cell? ⟨w.heap.size,0,none⟩=some (.pointer (some ⟨b,0,none⟩)):=by rw [← hA];exact (Boxed.new w _ _).cell
 have hsA:A.heap.size=w.heap.size+1:=by rw [← hA];simp
 have hEA:=cell_later hE hBA
 have hbA:Boxed A b 63 (.int .i64 z):=Boxed.kept_of hb hBA hb.lt
 have iN:=fun V (h:V.cell? ⟨w.heap.size,0,none⟩=some (.pointer (some ⟨b,0,none⟩)))=>Tryz.asIsNil w.heap.size ⟨b,0,none⟩ V h
 have C:Hid (∀ V,Below A.heap.size A V→Calls Tryz.prog 74 #[y.val,tgtV b,asV w.heap.size,rty 63] V fun e w'=>e=.returned (.bool true)∧Boxed w' b 63 (.int .i64 y.root)∧Below b V w'):=fun V hV=>as_loop y b w.heap.size z V (tgtV b) (Boxed.kept_of hbA hV (by have:=hb.lt;omega)) (cell_later hvb hV)
 have hblt:=hb.lt
 obtain ⟨t,u,hy⟩:=y.iface
 rw [hy] at C ⊢
 clear hb hE hbA
 go_enter Tryz.func23,Tryz.ntmps23
 go_wp2_with (go_at_call 74;refine (C.out _ (by first | exact Below.refl _ _ | exact nwB _ _)).mono ?_;rintro e w2 ⟨rfl,hb2,hB2⟩)
 go_ret
 refine ⟨rfl,hb2,(hBA.mono (Nat.le_of_lt hblt)).trans ?_⟩
 first | exact hB2 | exact ((Below.refl _ _).alloc (by omega) _).trans hB2
def Az (q:Qy) (ns:Nat) (Q:Nat→Sch):Nat→Int→Prop
 | 0,z=>z=if bookZ ns Q=0 then 0 else 1
 | 1,z=>z=chkQ q
 | 2,z=>MadeZ q.p z
 | 3,z=>(z=4 ∨ z=0)∧(z=4 ↔ (∃ i,HasTail q.p i)∧q.win=0)
 | 4,z=>z=newZ (fstL q.p).length (fstL q.p).length (fstT q.p) ns Q
 | 5,z=>FstR (fun i=>CondR (lookW q.p ns Q) q.p (q.c i)) q.n z
 | 6,z=>(q.key=⟨#[]⟩∧z=0) ∨ (¬ q.key=⟨#[]⟩∧FstR (KeyR (lookW q.p ns Q) (fstV q.p) q.key) (fstL q.p).length z)
 | 7,z=>FstR (fun i z=>z=itemZ (lookW q.p ns Q) q.p (q.it i)) q.m z
 | _,_=>False
abbrev WellR (q:Qy) (ns:Nat) (Q:Nat→Sch) (z:Int):Prop:=FstR (Az q ns Q) 8 z
theorem made_one {x:Pt} {z z':Int} (h:MadeZ x z) (h':MadeZ x z'):z=z':=by
 rcases h with ⟨a,rfl⟩ | ⟨a,b,rfl⟩ | ⟨a,b,rfl⟩ <;> rcases h' with ⟨c,rfl⟩ | ⟨c,d,rfl⟩ | ⟨c,d,rfl⟩ <;> first | rfl | exact absurd c a | exact absurd a c | exact absurd b d | exact absurd d b
theorem az_one {q:Qy} {ns:Nat} {Q:Nat→Sch}:∀ i,i < 8→∀ z z',Az q ns Q i z→Az q ns Q i z'→z=z'
 | 0,_,_,_,h,h'=>Eq.trans h (Eq.symm h')
 | 1,_,_,_,h,h'=>Eq.trans h (Eq.symm h')
 | 2,_,_,_,h,h'=>made_one h h'
 | 3,_,z,z',h,h'=>by
   obtain ⟨a,b⟩:=h
   obtain ⟨a',b'⟩:=h'
   rcases a with rfl | rfl <;> rcases a' with rfl | rfl
   · rfl
   · exact (b'.2 (b.1 rfl)).symm
   · exact b.2 (b'.1 rfl)
   · rfl
 | 4,_,_,_,h,h'=>Eq.trans h (Eq.symm h')
 | 5,_,_,_,h,h'=>FstR.one (R:=fun i=>CondR (lookW q.p ns Q) q.p (q.c i)) (fun _ _ _ _ h1 h2=>h1.one h2) h h'
 | 6,_,_,_,h,h'=>by
   rcases h with ⟨a,rfl⟩ | ⟨a,b⟩ <;> rcases h' with ⟨c,rfl⟩ | ⟨c,d⟩
   · rfl
   · exact absurd a c
   · exact absurd c a
   · exact FstR.one (R:=KeyR (lookW q.p ns Q) (fstV q.p) q.key) (fun _ _ _ _ e e'=>Eq.trans e (Eq.symm e')) b d
 | 7,_,_,_,h,h'=>FstR.one (R:=fun i z=>z=itemZ (lookW q.p ns Q) q.p (q.it i)) (fun _ _ _ _ e e'=>Eq.trans e (Eq.symm e')) h h'
theorem WellR.one {q:Qy} {ns:Nat} {Q:Nat→Sch} {z z':Int} (h:WellR q ns Q z) (h':WellR q ns Q z'):z=z':=FstR.one az_one h h'
def fnK:Nat→Nat
 | 0=>63
 | 1=>64
 | 2=>65
 | 3=>66
 | 4=>67
 | 5=>68
 | 6=>69
 | _=>70
def St (w:World) (b:Nat) (a:Option Addr) (ns cs:Nat) (Q:Nat→Sch) (q:Qy) (k:Nat) (W:World):Prop :=
 (∀ j,j < k→Az q ns Q j 0)∧Below w.heap.size w W∧(k≤4→AB W b (.slice a ns cs) q (.slice none 0 0) (.slice none 0 0) (.slice none 0 0) (.pointer none))∧(4 < k→Asked W b (.slice a ns cs) q ns Q)
theorem St.later {w W W':World} {b:Nat} {a:Option Addr} {ns cs:Nat} {Q:Nat→Sch} {q:Qy} {k:Nat} (h:St w b a ns cs Q q k W) (hB:Below W.heap.size W W'):St w b a ns cs Q q k W' :=
 ⟨h.1,h.2.1.trans (hB.mono h.2.1.size),fun h4=>(h.2.2.1 h4).later hB,fun h4=>(h.2.2.2 h4).later hB⟩
theorem St.next {w W W':World} {b:Nat} {a:Option Addr} {ns cs:Nat} {Q:Nat→Sch} {q:Qy} {k:Nat} (h:St w b a ns cs Q q k W) (hB:Below W.heap.size W W') (hz:Az q ns Q k 0) (hk:k ≠ 4):St w b a ns cs Q q (k+1) W':=by
 refine ⟨fun j hj=>?_,h.2.1.trans (hB.mono h.2.1.size),fun h4=>(h.2.2.1 (by omega)).later hB,fun h4=>(h.2.2.2 (by omega)).later hB⟩
 by_cases e:j=k
 · rw [e];exact hz
 · exact h.1 j (by omega)
def Stage (w:World) (b:Nat) (a:Option Addr) (ns cs:Nat) (Q:Nat→Sch) (q:Qy) (k:Nat) (W:World) (e:Ending) (w':World):Prop :=
 ∃ z v,e=.returned v∧Az q ns Q k z∧ErrW z v∧(z=0→St w b a ns cs Q q (k+1) w')∧Bt b W w'
theorem keyNone_any (b:Nat) (bk:Value) (q:Qy) (vv nv mv pv:Value) (W:World) (h:AB W b bk q vv nv mv pv) (hk:q.key=⟨#[]⟩):Calls Tryz.prog 69 #[.pointer (some ⟨b,0,none⟩)] W fun e w'=>e=.returned .nilIface∧Below W.heap.size W w':=by
 obtain ⟨A,hA⟩:∃ A,W.alloc (.cells #[.pointer (some ⟨b,0,none⟩)] 56)=A:=⟨_,rfl⟩
 have hBA:Below W.heap.size W A:=by rw [← hA];exact (Below.refl _ W).alloc (Nat.le_refl _) _
 have c1:A.cell? ⟨W.heap.size,0,none⟩=some (.pointer (some ⟨b,0,none⟩)):=by rw [← hA];exact (Boxed.new W _ _).cell
 obtain ⟨-,d8,-⟩:=(h.later hBA).rest
 rw [hk] at d8
 clear h hk
 go_enter Tryz.func69,Tryz.ntmps69
 go_wp2
 go_ret
 exact ⟨rfl,hBA⟩
theorem stage_any (w:World) (b:Nat) (a:Option Addr) (ns cs:Nat) (Q:Nat→Sch) (q:Qy) (N T:Addr) (hb:w.heap.size≤b) (hS:Schs w a ns Q) (hQ:IsQ w q) (hok:QOk q) (hsm:q.bulk≤1048576) (hSe:Sens w N T) :
 ∀ (k:Nat) (W:World),k < 8→St w b a ns cs Q q k W→Calls Tryz.prog (fnK k) #[.pointer (some ⟨b,0,none⟩)] W (Stage w b a ns cs Q q k W):=by
 intro k W hk h
 have hps:q.p.size≤1048576:=by unfold Qy.bulk at hsm;omega
 have hlt:b < W.heap.size:=by
  by_cases h4:k≤4
  · exact (h.2.2.1 h4).lt
  · obtain ⟨_,_,_,_,_,_,_,hAB,_⟩:=h.2.2.2 (by omega)
    exact hAB.lt
 have easy:k ≠ 4→∀ {e:Ending} {w':World},(∃ z v,e=.returned v∧Az q ns Q k z∧ErrW z v∧Below W.heap.size W w')→Stage w b a ns cs Q q k W e w':=fun hk4 {e w'} ⟨z,v,h1,h2,h3,h4⟩=>⟨z,v,h1,h2,h3,fun hz=>h.next h4 (hz ▸ h2) hk4,.of_below h4 (Nat.le_of_lt hlt)⟩
 have ctx:4 < k→Ctx w W b (.slice a ns cs) q ns Q N T:=fun h4=>⟨h.2.1,h.2.2.2 h4,(h.1 4 h4).symm,hQ,hok,hsm,hSe⟩
 have fine:1 < k→Fine q:=fun h1=>fine_of (h.1 1 h1).symm
 match k,hk with
 | 0,_=>exact (schemas_any b _ q _ _ _ _ W (h.2.2.1 (by omega)) a ns cs Q rfl (hS.later h.2.1)).mono fun e w' ⟨v,h1,h2,h3⟩=>easy (by omega) ⟨_,v,h1,rfl,h2,h3⟩
 | 1,_=>exact (clauses_any b _ q _ _ _ _ W (h.2.2.1 (by omega)) (hQ.later h.2.1) hok hsm).mono fun e w' ⟨v,h1,h2,h3⟩=>easy (by omega) ⟨_,v,h1,rfl,h2,h3⟩
 | 2,_=>exact (pattern_any b _ q _ _ _ _ W (h.2.2.1 (by omega)) (hQ.p.later h.2.1) hok.p hps).mono fun e w' ⟨z,v,h0,h1,h2,h3⟩=>easy (by omega) ⟨z,v,h1,h0,h2,h3⟩
 | 3,_=>exact (tailW_any b _ q _ _ _ _ W (h.2.2.1 (by omega)) (hQ.p.later h.2.1) hps).mono fun e w' ⟨z,v,h0,h1,h2,h3,h4⟩=>easy (by omega) ⟨z,v,h2,⟨h0,h1⟩,h3,h4⟩
 | 4,_ =>
   refine (types_any w b a ns cs Q q W (h.2.2.1 (by omega)) hb h.2.1 hS hQ.p hps hok.p).mono fun e w' ⟨v,h1,h2,h3,h4⟩=>⟨_,v,h1,rfl,h2,fun hz=>⟨fun j hj=>?_,h.2.1.trans (h3.1.mono hb),fun q=>by omega,fun _=>h4⟩,h3⟩
   by_cases e:j=4
   · rw [e];exact hz.symm
   · exact h.1 j (by omega)
 | 5,_=>exact (conditions_any w W b _ q ns Q N T (ctx (by omega))).mono fun e w' h9=>easy (by omega) h9
 | 6,_ =>
   by_cases hk:q.key=⟨#[]⟩
   · obtain ⟨_,_,_,_,_,_,_,hAB,_⟩:=h.2.2.2 (by omega)
     exact (keyNone_any b _ q _ _ _ _ W hAB hk).mono fun e w' ⟨h1,h2⟩=>easy (by omega) ⟨0,_,h1,.inl ⟨hk,rfl⟩,.inl ⟨rfl,rfl⟩,h2⟩
   · exact (key_any w W b _ q ns Q N T (ctx (by omega)) (fine (by omega)) hk).mono fun e w' ⟨z,v,h1,h2,h3,h4⟩=>easy (by omega) ⟨z,v,h1,.inr ⟨hk,h2⟩,h3,h4⟩
 | 7,_=>exact (items_any w W b _ q ns Q N T (ctx (by omega)) (fine (by omega))).mono fun e w' h9=>easy (by omega) h9
abbrev chkF (j:Nat):Value:=.func (.func (fnK j)) #[] #[]
theorem checks_any (w:World):Calls Tryz.prog 22 #[] w fun e w'=>e=.returned (.slice (some ⟨w.heap.size,0,none⟩) 8 8)∧w'=w.alloc (.cells #[chkF 0,chkF 1,chkF 2,chkF 3,chkF 4,chkF 5,chkF 6,chkF 7] 62):=by
 go_enter Tryz.func22,Tryz.ntmps22
 go_wp2
 go_ret
 exact ⟨rfl,rfl⟩
end Go.Proofs.YtkfpgkohkhhlhaaGreatDoor
