/- Texts that the last one stands on. -/
import Derived.Test.YtkfpgkohkhhlhaaGreatDoorHWlAs
import Derived.Test.YtkfpgkohkhhlhaaGreatDoorHTypKindR
set_option maxRecDepth 100000
set_option maxHeartbeats 4000000
namespace Go.Proofs.YtkfpgkohkhhlhaaGreatDoor
open Go.RowKit
def plainV:Value→Bool
 | .slice ..=>false
 | .pointer ..=>false
 | _=>true
def Stay (w w':World):Prop:=(∀ p v,plainV v=true→w.cell? p=some v→w'.cell? p=some v)∧∀ (k:Nat) (es:Array MapEntry) (c:Nat),w.heap[k]? = some (Obj.map es c)→w'.heap[k]? = some (Obj.map es c)
theorem NamesIn.stay {w w':World} {p m n:Nat} {V:Nat→ByteArray} {S:Nat→Sch} (h:NamesIn w p m n V S) (hs:Stay w w'):NamesIn w' p m n V S:=by
 obtain ⟨D,ho,hf⟩:=h.map
 obtain ⟨es,clock,h1,h2⟩:=ho
 refine ⟨hs.1 _ _ rfl h.box,⟨D,⟨es,clock,hs.2 _ _ _ h1,h2⟩,hf⟩,fun j hj=>⟨fun h0=>?_,(h.flds j hj).2⟩⟩
 obtain ⟨b,off,e,hc⟩:=(h.flds j hj).1 h0
 exact ⟨b,off,e,fun i hi=>⟨⟨hs.1 _ _ rfl (hc i hi).1.1,hs.1 _ _ rfl (hc i hi).1.2⟩,(hc i hi).2⟩⟩
theorem Txs.stay {w w':World} {a:Option Addr} {n:Nat} {S:Nat→ByteArray} (h:Txs w a n S) (hs:Stay w w'):Txs w' a n S:=fun h0=>by
 obtain ⟨b,o,e,hc⟩:=h h0
 exact ⟨b,o,e,fun j hj=>hs.1 _ _ rfl (hc j hj)⟩
theorem stay_set {w:World} {b o:Nat} {u v:Value} (hu:w.cell? ⟨b,o,none⟩=some u) (hp:plainV u=false):Stay w (w.setCell ⟨b,o,none⟩ v):=by
 refine ⟨fun p x hx hc=>?_,fun k es c hk=>?_⟩
 · by_cases e:p=⟨b,o,none⟩
   · rw [e,hu] at hc
     cases hc
     rw [hp] at hx
     cases hx
   · exact (World.cell?_setCell_other _ _ _ _ fun q=>e q.symm).trans hc
 · refine (Below.heap_setCell w ⟨b,o,none⟩ v k fun e=>?_).trans hk
   obtain ⟨ob,ho,hi⟩:=cells_of_cell hu
   have e':k=b:=e
   rw [e'] at hk
   rw [hk] at ho
   cases ho
   cases hi
theorem Stay.trans {A B C:World} (h:Stay A B) (g:Stay B C):Stay A C:=⟨fun p v hv hc=>g.1 p v hv (h.1 p v hv hc),fun k es c hk=>g.2 k es c (h.2 k es c hk)⟩
theorem Stay.of_below {A B:World} (h:Below A.heap.size A B):Stay A B:=⟨fun _ _ _ hc=>cell_later hc h,fun k _ _ hk=>(h.block k (Array.getElem?_eq_some_iff.1 hk).1).trans hk⟩
theorem nodeP_off {w:World} {b:Nat} {x:Pt} (h:NodeP w b 1 x) (o:Nat) (ho:7≤o) (v:Value):NodeP (w.setCell ⟨b,o,none⟩ v) b 1 x :=
 h.of fun j hj=>World.cell?_setCell_other _ _ _ _ fun e=>by injection e with _ e;omega
def Bt (b:Nat) (W W':World):Prop:=Below b W W'∧∀ k,k < W.heap.size→k ≠ b→W'.heap[k]? = W.heap[k]?
theorem Bt.of_below {b:Nat} {W W':World} (h:Below W.heap.size W W') (hb:b≤W.heap.size):Bt b W W':=⟨h.mono hb,fun k hk _=>h.block k hk⟩
theorem Bt.trans {b:Nat} {A B C:World} (h:Bt b A B) (g:Bt b B C):Bt b A C:=⟨h.1.trans g.1,fun k hk hne=>(g.2 k (Nat.lt_of_lt_of_le hk h.1.size) hne).trans (h.2 k hk hne)⟩
theorem Bt.boxed {b:Nat} {W W':World} (h:Bt b W W') {g:Nat} {t:TypeId} {v:Value} (hb:Boxed W g t v) (hne:g ≠ b):Boxed W' g t v:=(h.2 g hb.lt hne).trans hb
theorem Bt.set {b:Nat} {W:World} (o:Nat) (v:Value):Bt b W (W.setCell ⟨b,o,none⟩ v):=⟨(Below.refl _ W).setCell (p:=⟨b,o,none⟩) (Nat.le_refl _) _,fun k _ hne=>Below.heap_setCell W ⟨b,o,none⟩ v k hne⟩
theorem put4 {W:World} {b:Nat} {bk:Value} {q:Qy} (h:AB W b bk q (.slice none 0 0) (.slice none 0 0) (.slice none 0 0) (.pointer none)) (x1 x2 x3 x4:Value) :
 ∃ Z,(((W.setCell ⟨b,12,none⟩ x1).setCell ⟨b,13,none⟩ x2).setCell ⟨b,14,none⟩ x3).setCell ⟨b,15,none⟩ x4=Z∧AB Z b bk q x1 x2 x3 x4∧Bt b W Z∧Stay W Z:=by
 have h1:AB (W.setCell ⟨b,12,none⟩ x1) b bk q x1 (.slice none 0 0) (.slice none 0 0) (.pointer none):=heap_set h
 have h2:AB ((W.setCell ⟨b,12,none⟩ x1).setCell ⟨b,13,none⟩ x2) b bk q x1 x2 (.slice none 0 0) (.pointer none):=heap_set h1
 have h3:AB (((W.setCell ⟨b,12,none⟩ x1).setCell ⟨b,13,none⟩ x2).setCell ⟨b,14,none⟩ x3) b bk q x1 x2 x3 (.pointer none):=heap_set h2
 refine ⟨_,rfl,heap_set h3,(((Bt.set 12 x1).trans (Bt.set 13 x2)).trans (Bt.set 14 x3)).trans (Bt.set 15 x4),?_⟩
 exact (((stay_set h.made.1 rfl).trans (stay_set h1.made.2.1 rfl)).trans (stay_set h2.made.2.2.1 rfl)).trans (stay_set h3.made.2.2.2 rfl)
abbrev fstL (x:Pt):List Pt:=firstL (usesP x)
abbrev fstV (x:Pt):Nat→ByteArray:=atS ((fstL x).map (·.s))
abbrev fstT (x:Pt):Nat→ByteArray:=atS ((fstL x).map (·.t))
def NamesJ (w:World) (x:Pt) (ns:Nat) (Q:Nat→Sch) (po:Option Addr):Prop :=
 newZ (fstL x).length (fstL x).length (fstT x) ns Q=0→∃ p m S,po=some ⟨p,0,none⟩∧NamesIn w p m (fstL x).length (fstV x) S∧∀ j,j < (fstL x).length→∃ i,idx (fun i=>(Q i).nm) (fstT x j) ns=some i∧SameS (Q i) (S j)
def Asked (w:World) (b:Nat) (bk:Value) (q:Qy) (ns:Nat) (Q:Nat→Sch):Prop :=
 ∃ av cv a6 c6 a5 c5 po,AB w b bk q (.slice av (fstL q.p).length cv) (.slice a6 (ofK 6 (ndP q.p)).length c6) (.slice a5 (ofK 5 (ndP q.p)).length c5) (.pointer po)∧Txs w av (fstL q.p).length (fstV q.p)∧Txs w a6 (ofK 6 (ndP q.p)).length (atS (ofK 6 (ndP q.p)))∧Txs w a5 (ofK 5 (ndP q.p)).length (atS (ofK 5 (ndP q.p)))∧NamesJ w q.p ns Q po
theorem varsOf_any (x:Pt) (k:Int) (w:World) (hX:IsP w x) (hsm:x.size≤1048576) :
 Calls Tryz.prog 115 #[x.val,.int .i64 k] w fun e w'=>∃ v,e=.returned v∧w'.ownsRow w.heap.size 9 1 v (ofK k (ndP x)).length (cellsS (ofK k (ndP x)))∧Below w.heap.size w w' :=
 (callsIn_wide (n:=3)).1 (varsOf_in 3 x k w hX hsm)
theorem own_txs' {w:World} {base n cap:Nat} {a:Option Addr} {l:List ByteArray} (h:w.ownsRow base 9 1 (.slice a n cap) n (cellsS l)):Txs w a n (atS l):=by
 obtain ⟨a',cap',e,ht,_⟩:=own_txs h
 cases e
 exact ht
theorem types_any (w0:World) (b:Nat) (a:Option Addr) (ns cs:Nat) (Q:Nat→Sch) (q:Qy) (W:World) (h:AB W b (.slice a ns cs) q (.slice none 0 0) (.slice none 0 0) (.slice none 0 0) (.pointer none)) (_:w0.heap.size≤b) (hBW:Below w0.heap.size w0 W)
 (hS:Schs w0 a ns Q) (hX:IsP w0 q.p) (hsm:q.p.size≤1048576) (hok:POk q.p) :
 Calls Tryz.prog 67 #[.pointer (some ⟨b,0,none⟩)] W fun e w'=>∃ v,e=.returned v∧ErrW (newZ (fstL q.p).length (fstL q.p).length (fstT q.p) ns Q) v∧Bt b W w'∧Asked w' b (.slice a ns cs) q ns Q:=by
 obtain ⟨L,hL⟩:∃ L,L=fstL q.p:=⟨_,rfl⟩
 have hLl:L.length≤1048576:=by rw [hL];have:=length_firstL (usesP q.p);have:=length_uses q.p;show (firstL _).length≤_;omega
 have C1:=vars12_any q.p W (hX.later hBW) hsm hok
 rw [show firstL (usesP q.p)=L from hL.symm] at C1
 have HL:=hid hL
 have e1:vs1 L L.length=cellsS (L.map (·.s)):=by simp [vs1,cellsS]
 have e2:vs2 L L.length=cellsS (L.map (·.t)):=by simp [vs2,cellsS]
 have l1:(vs1 L L.length).length=L.length:=by simp [vs1]
 have l2:(vs2 L L.length).length=L.length:=by simp [vs2]
 have HVs:Hid (∀ j,j < L.length→(atS (L.map (·.s)) j).size≤maxLen):=fun j hj=>by
  have hm:L[j] ∈ usesP q.p:=mem_firstL (by rw [show firstL (usesP q.p)=L from hL.symm];exact List.getElem_mem hj)
  have:=(uses_ok hok _ hm).1
  simpa [atS,hj] using this
 have key:Hid (∀ av cv v2 v3 w1,R3 W.heap.size w1 (.slice av L.length cv) v2 v3 (vs1 L L.length) (vs2 L L.length) (vs3 L L.length)→Below W.heap.size W w1→∃ at_ ct,v2=.slice at_ L.length ct∧Txs w1 av L.length (atS (L.map (·.s))) ∧
  Calls Tryz.prog 114 #[.slice a ns cs,.slice av L.length cv,.slice at_ L.length ct] w1 fun e w'=>∃ po,e=.returned (.tuple #[.pointer po,.int .i64 (newZ L.length L.length (atS (L.map (·.t))) ns Q)])∧(newZ L.length L.length (atS (L.map (·.t))) ns Q=0→∃ p m S,po=some ⟨p,0,none⟩∧NamesIn w' p m L.length (atS (L.map (·.s))) S∧∀ j,j < L.length→∃ i,idx (fun i=>(Q i).nm) (atS (L.map (·.t)) j) ns=some i∧SameS (Q i) (S j))∧Below w1.heap.size w1 w'):=by
  intro av cv v2 v3 w1 h3 hB1
  have o1:=h3.o1
  have o2:=h3.o2
  rw [l1,e1] at o1
  rw [l2,e2] at o2
  obtain ⟨at_,ct,rfl⟩:=row_slice o2
  refine ⟨at_,ct,rfl,own_txs' o1,?_⟩
  refine (new_any a ns cs Q av L.length cv _ at_ L.length ct _ w1 ((hS.later hBW).later hB1) (own_txs' o1) (own_txs' o2) hLl HVs.out).mono ?_
  rintro e w' (⟨hz,-,p,m,S,rfl,hn,hs,hB⟩ | ⟨hz,rfl,hB⟩)
  · exact ⟨_,by rw [hz],fun _=>⟨p,m,S,rfl,hn,hs⟩,hB⟩
  · exact ⟨_,rfl,fun h=>absurd h hz,hB⟩
 have HAB:=hid h
 have HCV:Hid (∀ (k:Int) (d:World),Below W.heap.size W d→Calls Tryz.prog 115 #[q.p.val,.int .i64 k] d fun e w'=>∃ v,e=.returned v∧w'.ownsRow d.heap.size 9 1 v (ofK k (ndP q.p)).length (cellsS (ofK k (ndP q.p)))∧Below d.heap.size d w'):=fun k d hd=>varsOf_any q.p k d (hX.later (hBW.trans (hd.mono hBW.size))) hsm
 have c0:=h.book
 obtain ⟨d1,d2,d3,d4,d5,d6⟩:=h.node.at1
 have hblt:=h.lt
 clear h hS hX hsm hok hL e1 e2 l1 l2
 go_enter Tryz.func67,Tryz.ntmps67
 go_wp2_with (first
  | (go_at_call 17;refine C1.mono ?_;clear C1;rintro e w1 ⟨v1,v2,v3,rfl,h3,hB1⟩
     obtain ⟨av,cv,rfl⟩:=row_slice h3.o1
     rw [show (vs1 L L.length).length=L.length by simp [vs1]] at h3 ⊢
     obtain ⟨at_,ct,rfl,hTx,CN⟩:=key.out av cv v2 v3 w1 h3 hB1
     obtain ⟨a3,c3,rfl⟩:=row_slice h3.o3
     have HTx:=hid hTx
     have k0:=(HAB.out.later hB1).book
     clear key hTx h3)
  | (go_at_call 114;refine CN.mono ?_;clear CN;rintro e W2 ⟨po,rfl,hnew,hB2⟩))
 have hBW2:Below W.heap.size W W2:=hB1.trans (hB2.mono hB1.size)
 have HAB2:Hid (AB W2 b _ q _ _ _ _):=HAB.out.later hBW2
 have HN2:Hid (NodeP W2 b 1 q.p):=HAB2.out.node
 have CV:Hid (∀ (k:Int) (d:World),Below W2.heap.size W2 d→Calls Tryz.prog 115 #[q.p.val,.int .i64 k] d fun e w'=>∃ v,e=.returned v∧w'.ownsRow d.heap.size 9 1 v (ofK k (ndP q.p)).length (cellsS (ofK k (ndP q.p)))∧Below d.heap.size d w'):=fun k d hd=>HCV.out k d (hBW2.trans (hd.mono hBW2.size))
 have HBL:Hid (b≤W2.heap.size):=by have:=hBW2.size;show b≤_;omega
 have HNEW:Hid _:=hnew
 have HTX:Hid (Txs W2 av L.length (atS (L.map (·.s)))):=HTx.out.later hB2
 clear HAB HCV hnew HTx
 have HAB:Hid (AB W2 b _ q _ _ _ _):=HAB2.out
 clear HAB2
 refine wp_region_noPanic ?_
 refine wp_region_held_drew (S:=fun w'=>Below b W2 w'∧NodeP w' b 1 q.p) (by kernel_rfl) ⟨(Below.refl _ _).drew,HN2.out⟩ (fun hHeld=>?_)
 have hT:Below W2.heap.size W2 W2.drew:=(Below.refl _ _).drew
 obtain ⟨d,hd⟩:∃ d,d=W2.drew:=⟨_,rfl⟩
 rw [← hd] at hHeld hT ⊢
 clear hd
 refine tk 0 ?_
 refine tk 1 ?_
 refine tk 2 ?_
 refine tk 3 ?_
 refine tk 4 ?_
 refine tk 5 ?_
 refine tk 6 ?_
 refine tk 7 ?_
 refine tk 8 ?_
 refine tk 9 ?_ (hy:=fun w9 hSw=>by obtain ⟨d1,d2,d3,d4,d5,d6⟩:=hSw.2.at1;go_simp;(try with_reducible rfl))
 refine tk 11 ?_
 refine tk 12 ?_
 refine tk 13 ?_
 refine tk 14 ?_
 refine tk 15 ?_ (hy:=fun w9 hSw=>by obtain ⟨d1,d2,d3,d4,d5,d6⟩:=hSw.2.at1;go_simp;(try with_reducible rfl))
 refine tk 17 ?_
 refine rd 10 fun K hK=>?_
 go_simp
 refine (CV.out 6 d hT).mono ?_
 rintro e x10 ⟨v10,rfl,ho10,hN10⟩
 obtain ⟨a10,c10,rfl⟩:=row_slice ho10
 go_wp2_with fail
 have hT10:Below W2.heap.size W2 x10:=hT.trans (hN10.mono hT.size)
 refine hK.out _ _ ⟨hHeld.1.trans (hN10.mono (Nat.le_trans HBL.out hT.size)),hHeld.2.later hN10⟩ (fun hHeld=>?_)
 clear hK K hT;have hT:Below W2.heap.size W2 x10:=hT10;clear hT10
 try simp only [Act.put,s_put,s_0,s_1]
 refine rd 16 fun K hK=>?_
 go_simp
 refine (CV.out 5 x10 hT).mono ?_
 rintro e x16 ⟨v16,rfl,ho16,hN16⟩
 obtain ⟨a16,c16,rfl⟩:=row_slice ho16
 go_wp2_with fail
 have hT16:Below W2.heap.size W2 x16:=hT.trans (hN16.mono hT.size)
 refine hK.out _ _ ⟨hHeld.1.trans (hN16.mono (Nat.le_trans HBL.out hT.size)),hHeld.2.later hN16⟩ (fun hHeld=>?_)
 clear hK K hT;have hT:Below W2.heap.size W2 x16:=hT16;clear hT16
 try simp only [Act.put,s_put,s_0,s_1]
 obtain ⟨Z,hZ,hABZ,hBZ,hSZ⟩:=put4 (HAB.out.later hT) (.slice av L.length cv) (.slice a10 (ofK 6 (ndP q.p)).length c10) (.slice a16 (ofK 5 (ndP q.p)).length c16) (.pointer po)
 obtain ⟨g12,g13,g14,g15⟩:=(HAB.out.later hT).made
 have hfz:=(HAB.out.later hT).frozen
 refine tk 18 ?_
 refine tk 19 ?_
 refine rd 20 fun K hK=>?_
 go_simp
 refine hK.out _ _ ⟨hHeld.1.setCell (p:=⟨b,12,none⟩) (Nat.le_refl _) _,nodeP_off hHeld.2 12 (by decide) _⟩ (fun hHeld=>?_)
 clear hK K
 try simp only [Act.put,s_put,s_0,s_1]
 refine tk 21 ?_
 refine tk 22 ?_
 refine rd 23 fun K hK=>?_
 go_simp
 refine hK.out _ _ ⟨hHeld.1.setCell (p:=⟨b,13,none⟩) (Nat.le_refl _) _,nodeP_off hHeld.2 13 (by decide) _⟩ (fun hHeld=>?_)
 clear hK K
 try simp only [Act.put,s_put,s_0,s_1]
 refine tk 24 ?_
 refine tk 25 ?_
 refine rd 26 fun K hK=>?_
 go_simp
 refine hK.out _ _ ⟨hHeld.1.setCell (p:=⟨b,14,none⟩) (Nat.le_refl _) _,nodeP_off hHeld.2 14 (by decide) _⟩ (fun hHeld=>?_)
 clear hK K
 try simp only [Act.put,s_put,s_0,s_1]
 refine tk 27 ?_
 refine tk 28 ?_
 refine rd 29 fun K hK=>?_
 go_simp
 refine hK.out _ _ (by rw [← hZ];exact ⟨hHeld.1.setCell (p:=⟨b,15,none⟩) (Nat.le_refl _) _,nodeP_off hHeld.2 15 (by decide) _⟩) (fun hHeld=>?_)
 clear hK K
 try simp only [Act.put,s_put,s_0,s_1]
 refine dn ?_
 have hBW16:=hBW2.trans (hT.mono hBW2.size)
 have FIN:Hid (Bt b W Z∧Asked Z b (.slice a ns cs) q ns Q):=by
  refine ⟨(Bt.of_below hBW16 (Nat.le_of_lt hblt)).trans hBZ,av,cv,a10,c10,a16,c16,po,?_,?_,?_,?_,?_⟩
  · rw [← HL.out];exact hABZ
  · have:=(HTX.out.later hT).stay hSZ
    rw [HL.out] at this
    exact this
  · exact (own_txs' (own_laterS ho10 hN16)).stay hSZ
  · exact (own_txs' ho16).stay hSZ
  · intro hz
    have hNZ:=HNEW.out
    rw [HL.out] at hNZ
    obtain ⟨p,m,S,e,hn,hs⟩:=hNZ hz
    exact ⟨p,m,S,e,(hn.later hT).stay hSZ,hs⟩
 have HE:Hid (newZ L.length L.length (atS (L.map (·.t))) ns Q=newZ (fstL q.p).length (fstL q.p).length (fstT q.p) ns Q):=by show _=_;rw [HL.out]
 clear hABZ hBZ hSZ ho10 ho16 hHeld hT hN10 hN16 hZ g12 g13 g14 g15 hfz HNEW HTX
 go_wp2_with (go_at_call 113;refine (refused_any _ _).mono ?_;rintro e w2 ⟨rfl,rfl⟩)
 go_ret
 exact ⟨_,rfl,by rw [← HE.out];exact errW_of _,FIN.out⟩
open Go.Shelf Go.Sort Go.Lib
theorem own_txs_of {w:World} {a:Option Addr} {n:Nat} {l:List ByteArray} {b o:Nat} (ha:a=some ⟨b,o,none⟩) (h:Txs w a n (atS l)) (hl:l.length=n):∀ j u,(cellsS l)[j]? = some u→w.cell? ⟨b,o+j,none⟩=some u:=by
 intro j u hu
 have hj:j < l.length:=by have:=(List.getElem?_eq_some_iff.1 hu).1;simpa [cellsS] using this
 obtain ⟨b',o',e,hc⟩:=h (by omega)
 rw [ha] at e
 cases e
 rw [hc j (by omega)]
 rw [cellsS,List.getElem?_map,List.getElem?_eq_getElem hj] at hu
 simp only [Option.map_some,Option.some.injEq] at hu
 rw [← hu]
 simp [atS,hj]
theorem cloneT_any (a:Option Addr) (n cap:Nat) (l:List ByteArray) (w:World) (h:Txs w a n (atS l)) (hl:l.length=n) (hn:n≤1048576) :
 Calls Tryz.prog 202 #[.slice a n cap] w fun e w'=>∃ v,e=.returned v∧w'.ownsRow w.heap.size 9 1 v n (cellsS l)∧Below w.heap.size w w':=by
 cases a with
 | none =>
   obtain rfl:n=0:=by
    by_cases h0:0 < n
    · obtain ⟨_,_,e,_⟩:=h h0
      cases e
    · omega
   obtain rfl:l=[]:=List.eq_nil_of_length_eq_zero hl
   clear h hl
   have he:∀ w:World,(binOp .eql 37 (.slice none 0 cap) (.slice none 0 0)).run Tryz.prog w=.ok (.bool true) w:=fun _=>rfl
   go_enter Tryz.func202,Tryz.ntmps202
   go_wp2
   go_ret
   exact ⟨_,rfl,World.ownsRow_nil _ _ _ _,Below.refl _ _⟩
 | some x =>
   obtain ⟨i0,hi,hz0,hz1,hz2⟩:=info_parts infoS
   have hB0:Below w.heap.size w (w.alloc (.cells #[] 9)):=nwB _ _
   have hown0:(w.alloc (.cells #[] 9)).ownsRow w.heap.size 9 1 (.slice (some ⟨w.heap.size,0,none⟩) 0 0) 0 [] :=
    ⟨rfl,.inr ⟨w.heap.size,0,#[],rfl,Nat.le_refl _,alloc_new w _,Nat.le_refl _,Nat.zero_le _,rfl,rfl⟩⟩
   obtain ⟨v1,w1,hrun1,hown1,hg1,_⟩:=run_append_own (P:=Tryz.prog) (w:=w.alloc (.cells #[] 9)) w.heap.size 37 37 9 i0 _ 1 16 Tryz.underlying37 hi hz0 hz1 hz2 rfl (by decide) _ 0 [] hown0 x n cap (cellsS l) (by simp [cellsS,hl])
    (fun j u hu=>by
      have h':=h.later hB0
      have hj:j < l.length:=by have:=(List.getElem?_eq_some_iff.1 hu).1;simpa [cellsS] using this
      obtain ⟨b',o',e,hc⟩:=h' (by omega)
      cases e
      rw [add_none]
      exact own_txs_of rfl h' hl j u hu) (by simp [cellsS,Value.oneCell']) (by unfold maxLen;omega) (by omega) (by simp)
   simp only [Nat.zero_add,List.nil_append] at hown1
   have hB1:Below w.heap.size w w1:=hB0.grown hg1 (by simp) (by intro k hk;simp [Value.ownBlock] at hk;omega)
   have HR1:=hid hrun1
   clear h hown0 hB0 hg1 hrun1 hl
   have he:∀ w:World,(binOp .eql 37 (.slice (some x) n cap) (.slice none 0 0)).run Tryz.prog w=.ok (.bool false) w:=fun _=>rfl
   go_enter Tryz.func202,Tryz.ntmps202
   go_wp2_with (first | (at_builtin;refine wpList_append_run rfl (.tmp 5) (.tmp 6) 37 rfl _ _ _ rfl rfl HR1.out ?_))
   go_ret
   exact ⟨_,rfl,hown1,hB1⟩
theorem both1_gives (B:Nat) (a:Option Addr) (n cap:Nat) (l:List ByteArray) (s:ByteArray) (W:World) (hB:W.cell? ⟨B,0,none⟩=some (.slice a n cap)) (h:Txs W a n (atS l)) (hl:l.length=n) (hn:n≤9223372036854775807) :
 FnGives Tryz.prog 203 #[.pointer (some ⟨B,0,none⟩)] #[.string s] (.bool (!memB l s)) W:=by
 have C:=containsS_any a n cap l s W h hl hn
 clear h hl
 show Calls Tryz.prog 203 #[.string s,.pointer (some ⟨B,0,none⟩)] W _
 go_enter Tryz.func203,Tryz.ntmps203
 go_wp2_with (go_at_call 42;refine C.mono ?_;rintro e w2 ⟨rfl,q,rfl⟩)
 go_ret
 exact ⟨rfl,q,rfl⟩
theorem putRow_grown {w:World} {g n:Nat} (d:Array ByteArray):w.grownBy (putRow Value.string (Sort.ahead w n) g 0 d) (some g):=by
 refine ⟨rfl,rfl,rfl,by simp,fun k hk hne=>?_⟩
 have:g ≠ k:=fun e=>hne (by rw [e])
 simp [putRow,mapBlock,Sort.ahead,Array.getElem?_modify,this]
def bothL (l m:List ByteArray):List ByteArray:=l.filter fun s=>memB m s
theorem delNil_any (g:Nat) (lb:Array Value) (w:World):Calls Tryz.prog 201 #[.slice none 0 0,.func (.func g) #[] lb] w fun e w'=>e=.returned (.slice none 0 0)∧w'=w:=by
 have C:Calls Tryz.prog 211 #[.slice none 0 0,.func (.func g) #[] lb] w fun e w'=>e=.returned (.int .i64 (-1))∧w'=w:=by
  go_enter Tryz.func211,Tryz.ntmps211
  go_wp2
  go_loopw [8] (fun u wr=>u=.int .i64 0∧wr=w) (fun _ _=>0)
  case atStart=>exact ⟨rfl,rfl⟩
  case round =>
   obtain ⟨rfl,rfl⟩:=hrel
   go_wp2
   go_ret
   exact ⟨rfl,rfl⟩
 go_enter Tryz.func201,Tryz.ntmps201
 go_wp2_with (go_at_call 211;refine C.mono ?_;rintro e w2 ⟨rfl,rfl⟩)
 go_ret
 exact ⟨rfl,rfl⟩
theorem both_any (a:Option Addr) (n cap:Nat) (l:List ByteArray) (a2:Option Addr) (n2 cap2:Nat) (m:List ByteArray) (w:World) (h:Txs w a n (atS l)) (hl:l.length=n) (hn:n≤1048576) (h2:Txs w a2 n2 (atS m)) (hl2:m.length=n2) (hn2:n2≤9223372036854775807) :
 Calls Tryz.prog 182 #[.slice a n cap,.slice a2 n2 cap2] w fun e w'=>∃ v,e=.returned v∧w'.ownsRow w.heap.size 9 1 v (bothL l m).length (cellsS (bothL l m))∧Below w.heap.size w w':=by
 obtain ⟨A,hA⟩:∃ A,w.alloc (.cells #[.slice a2 n2 cap2] 37)=A:=⟨_,rfl⟩
 have hBA:Below w.heap.size w A:=by rw [← hA];exact nwB w _
 have hsA:A.heap.size=w.heap.size+1:=by rw [← hA];simp
 have hb:A.cell? ⟨w.heap.size,0,none⟩=some (.slice a2 n2 cap2):=by rw [← hA];simp
 have C1:=cloneT_any a n cap l A (h.later hBA) hl hn
 have h2A:=h2.later hBA
 have eg:∀ args w,(callFunc 203 args).run Tryz.prog w=.ok (.enter 203 args) w:=enters_of Tryz.func203 (by kernel_rfl) rfl
 have key:∀ v W,W.ownsRow A.heap.size 9 1 v n (cellsS l)→Below A.heap.size A W →
  Calls Tryz.prog 201 #[v,.func (.func 203) #[] #[.pointer (some ⟨w.heap.size,0,none⟩)]] W fun e w'=>∃ v,e=.returned v∧w'.ownsRow A.heap.size 9 1 v (bothL l m).length (cellsS (bothL l m))∧Below A.heap.size A w':=by
  intro v W ho hB
  by_cases hv:v=.slice none 0 0
  · subst hv
    have hl0:l=[]:=by
     rcases ho.2 with ⟨_,e⟩ | ⟨g,cap,cur,e,_⟩
     · exact List.eq_nil_of_length_eq_zero (by omega)
     · cases e
    subst hl0
    refine (delNil_any _ _ W).mono ?_
    rintro e w' ⟨rfl,rfl⟩
    exact ⟨_,rfl,World.ownsRow_nil _ _ _ _,hB⟩
  · have ho':=ho
    obtain ⟨g,cap',rfl,hg,hgl,hnc,hcm,hzl,hH⟩:=Lib.holds_of_ownsRow (enc:=Value.string) (zs:=l) ho hv
    have hcap:∀ W',Below A.heap.size A W'→W'.cell? ⟨w.heap.size,0,none⟩=some (.slice a2 n2 cap2)∧Txs W' a2 n2 (atS m):=fun W' h'=>⟨(h'.cell (p:=⟨w.heap.size,0,none⟩) (by show w.heap.size < _;omega)).trans hb,h2A.later h'⟩
    have hp:PredAt Tryz.prog 203 #[.pointer (some ⟨w.heap.size,0,none⟩)] Value.string (fun s=>!memB m s) W:=fun W' s hb'=>by
     obtain ⟨q1,q2⟩:=hcap W' (hB.trans (hb'.mono hB.size))
     exact both1_gives _ a2 n2 cap2 m s W' q1 q2 hl2 hn2
    have hpo:PredOver Tryz.prog 203 #[.pointer (some ⟨w.heap.size,0,none⟩)] Value.string (fun s=>!memB m s) g 0 l.toArray.size W:=fun k os dk s _=>by
     have hbl:Below A.heap.size A (sortWorld Value.string W g 0 k dk os):=by
      refine hB.trans ⟨rfl,rfl,rfl,?_,fun i hi=>?_⟩
      · unfold sortWorld;simp [size_putRow]
      · unfold sortWorld
        have hi':i < W.heap.size:=by have:=hB.size;omega
        rw [heap_grow_old _ _ (by simpa using hi')]
        exact (putRow_grown (w:=W) (n:=k) dk).block i hi' (fun e=>by injection e with e;omega)
     obtain ⟨q1,q2⟩:=hcap _ hbl
     exact both1_gives _ a2 n2 cap2 m s _ q1 q2 hl2 hn2
    have hcon:=AnyE.slices_DeleteFunc Tryz.delS201 Value.string (fun _=>rfl) (fun s=>!memB m s) 203 #[.pointer (some ⟨w.heap.size,0,none⟩)] eg ⟨#[]⟩ Tryz.zeroValue9 g 0 cap' l.toArray W hp hpo hH (by simp;omega) (by simp;omega)
    have e1:(l.toArray.toList.filter fun x=>!(fun s=>!memB m s) x)=bothL l m:=by simp [bothL]
    rw [e1] at hcon
    have hlen:(bothL l m).length≤n:=by rw [← hl];exact List.length_filter_le _ _
    have e2:l.toArray.size=n:=by simp [hl]
    rw [e2] at hcon
    refine Calls.mono hcon ?_
    rintro e w' ⟨rfl,q,rfl⟩
    refine ⟨_,rfl,?_,hB.grown (putRow_grown _) hB.size (fun k e=>by injection e with e;omega)⟩
    have:=Lib.ownsRow_putRow (q:=q) (k:=(bothL l m).length) (ys:=bothL l m ++ List.replicate (n - (bothL l m).length) ⟨#[]⟩) (enc:=Value.string) (zs:=l) ho' (by simp;omega) hlen
    rw [List.take_left] at this
    exact this
 clear h h2 h2A hb eg
 go_enter Tryz.func182,Tryz.ntmps182
 go_wp2_with (first
  | (go_at_call 202;refine C1.mono ?_;rintro e w2 ⟨v2,rfl,ho2,hB2⟩;have C2:=key v2 w2 ho2 hB2;clear key)
  | (go_at_call 201;refine C2.mono ?_;rintro e w3 ⟨v3,rfl,ho3,hB3⟩))
 go_ret
 refine ⟨_,rfl,⟨ho3.1,?_⟩,hBA.trans (hB3.mono (by omega))⟩
 rcases ho3.2 with h1 | ⟨g,cap',cur,e,hg,hc,hr⟩
 · exact .inl h1
 · exact .inr ⟨g,cap',cur,e,by omega,hc,hr⟩
def preF (x:Pt) (i:Nat):Pt:=.mk 0 ⟨#[]⟩ ⟨#[]⟩ 0 0 x.a i x.cap x.c
def hitF (s:ByteArray) (x:Pt) (i:Nat):Bool:=decide (x.k=2) && (decide ((x.c i).k=6) && decide ((x.c i).s=s))
def frN (g:Nat→List Pt) (hit:Nat→Bool) (f:Nat→Pt):Nat→List Pt
 | 0=>[]
 | i+1=>frN g hit f i ++ ((if hit i && (frN g hit f i).isEmpty then [f i] else []) ++ g i)
def frP (s:ByteArray):Pt→List Pt
 | .nil=>[]
 | .mk k s' t lo hi a n cap c=>frN (fun i=>frP s (c i)) (fun i=>hitF s (.mk k s' t lo hi a n cap c) i) (fun i=>preF (.mk k s' t lo hi a n cap c) i) n
theorem frP_eq (s:ByteArray) (x:Pt):frP s x=frN (fun i=>frP s (x.c i)) (hitF s x) (preF x) x.n:=by cases x <;> rfl
def frA (s:ByteArray):Pt→List Pt
 | .nil=>[]
 | .mk k s' t lo hi a n cap c=>catN (fun i=>(if hitF s (.mk k s' t lo hi a n cap c) i then [preF (.mk k s' t lo hi a n cap c) i] else []) ++ frA s (c i)) n
theorem frA_eq (s:ByteArray) (x:Pt):frA s x=catN (fun i=>(if hitF s x i then [preF x i] else []) ++ frA s (x.c i)) x.n:=by cases x <;> rfl
theorem frN_len {g:Nat→List Pt} {hit:Nat→Bool} {f:Nat→Pt} {z:Nat→Nat} (h:∀ i,(g i).length < z i):∀ n,(frN g hit f n).length≤sumN z n
 | 0=>Nat.le_refl _
 | n+1=>by
   have h1:=frN_len (hit:=hit) (f:=f) h n
   have h2:=h n
   simp only [frN,sumN,List.length_append]
   split <;> simp <;> omega
theorem frP_len (s:ByteArray):∀ x:Pt,(frP s x).length < x.size
 | .nil=>by simp [frP,Pt.size]
 | .mk k s' t lo hi a n cap c=>by
   have:=frN_len (g:=fun i=>frP s (c i)) (hit:=fun i=>hitF s (.mk k s' t lo hi a n cap c) i) (f:=fun i=>preF (.mk k s' t lo hi a n cap c) i) (z:=fun i=>(c i).size) (fun i=>frP_len s (c i)) n
   simp only [frP,Pt.size]
   omega
def isAM (y:Pt):Bool:=decide (y.k=1) || decide (y.k=5)
def nmW (l:List Pt):List ByteArray:=(l.filter isAM).map (·.s)
theorem mem_nmW {s:ByteArray} {l:List Pt}:s ∈ nmW l ↔ ∃ y ∈ l,isAM y=true∧y.s=s:=by
 simp only [nmW,List.mem_map,List.mem_filter]
 constructor
 · rintro ⟨y,⟨h1,h2⟩,h3⟩;exact ⟨y,h1,h2,h3⟩
 · rintro ⟨y,h1,h2,h3⟩;exact ⟨y,⟨h1,h2⟩,h3⟩
theorem mem_ndF {f y:Pt}:y ∈ ndF f ↔ ∃ i,i < f.n∧y ∈ ndP (f.c i):=mem_catN
theorem mem_ndP {x y:Pt}:y ∈ ndP x ↔ y=x ∨ ∃ i,i < x.n∧y ∈ ndP (x.c i):=by rw [ndP_eq,List.mem_cons,mem_catN]
def Nle (f g:Pt):Prop:=∀ s,s ∈ nmW (ndF f)→s ∈ nmW (ndF g)
theorem nle_pre (x:Pt) {i j:Nat} (h:i≤j):Nle (preF x i) (preF x j):=by
 intro s hs
 obtain ⟨y,h1,h2⟩:=mem_nmW.1 hs
 obtain ⟨q,hq,h3⟩:=mem_ndF.1 h1
 exact mem_nmW.2 ⟨y,mem_ndF.2 ⟨q,Nat.lt_of_lt_of_le hq h,h3⟩,h2⟩
theorem mem_frN {g:Nat→List Pt} {hit:Nat→Bool} {f:Nat→Pt} {y:Pt}:∀ {n:Nat},y ∈ frN g hit f n→∃ i,i < n∧((hit i=true∧y=f i) ∨ y ∈ g i)
 | 0,h=>by simp [frN] at h
 | n+1,h=>by
   simp only [frN,List.mem_append] at h
   rcases h with h | h | h
   · obtain ⟨i,hi,e⟩:=mem_frN h
     exact ⟨i,by omega,e⟩
   · split at h
     · rename_i hh
       rw [Bool.and_eq_true] at hh
       exact ⟨n,by omega,.inl ⟨hh.1,by simpa using h⟩⟩
     · simp at h
   · exact ⟨n,by omega,.inr h⟩
theorem frN_up {g:Nat→List Pt} {hit:Nat→Bool} {f:Nat→Pt} {y:Pt} {i:Nat}:∀ {n:Nat},i≤n→y ∈ frN g hit f i→y ∈ frN g hit f n
 | 0,h,hy=>by
   have e:i=0:=by omega
   rwa [e] at hy
 | n+1,h,hy=>by
   by_cases e:i=n+1
   · rwa [e] at hy
   · simp only [frN,List.mem_append]
     exact .inl (frN_up (by omega) hy)
theorem mem_frA {s:ByteArray} {x y:Pt}:y ∈ frA s x ↔ ∃ i,i < x.n∧((hitF s x i=true∧y=preF x i) ∨ y ∈ frA s (x.c i)):=by
 rw [frA_eq,mem_catN]
 constructor
 · rintro ⟨i,hi,h⟩
   rcases List.mem_append.1 h with h | h
   · split at h
     · rename_i hh;exact ⟨i,hi,.inl ⟨hh,by simpa using h⟩⟩
     · simp at h
   · exact ⟨i,hi,.inr h⟩
 · rintro ⟨i,hi,h | h⟩
   · exact ⟨i,hi,List.mem_append.2 (.inl (by rw [if_pos h.1,h.2];simp))⟩
   · exact ⟨i,hi,List.mem_append.2 (.inr h)⟩
theorem frP_sub {s:ByteArray}:∀ {x y:Pt},y ∈ frP s x→y ∈ frA s x:=by
 refine @(Pt.ind fun x ih y h=>?_)
 rw [frP_eq] at h
 obtain ⟨i,hi,h | h⟩:=mem_frN h
 · exact mem_frA.2 ⟨i,hi,.inl h⟩
 · exact mem_frA.2 ⟨i,hi,.inr (ih i hi h)⟩
theorem frA_in {s:ByteArray}:∀ {x y:Pt},y ∈ frA s x→∀ t,t ∈ nmW (ndF y)→t ∈ nmW (ndF x):=by
 refine @(Pt.ind fun x ih y h t ht=>?_)
 obtain ⟨i,hi,h | h⟩:=mem_frA.1 h
 · rw [h.2] at ht
   obtain ⟨z,h1,h2⟩:=mem_nmW.1 ht
   obtain ⟨q,hq,h3⟩:=mem_ndF.1 h1
   exact mem_nmW.2 ⟨z,mem_ndF.2 ⟨q,Nat.lt_trans hq hi,h3⟩,h2⟩
 · obtain ⟨z,h1,h2⟩:=mem_nmW.1 (ih i hi h t ht)
   obtain ⟨q,hq,h3⟩:=mem_ndF.1 h1
   exact mem_nmW.2 ⟨z,mem_ndF.2 ⟨i,hi,mem_ndP.2 (.inr ⟨q,hq,h3⟩)⟩,h2⟩
theorem frA_over {s:ByteArray}:∀ {x y:Pt},y ∈ frA s x→∃ g ∈ frP s x,Nle g y:=by
 refine @(Pt.ind fun x ih y h=>?_)
 obtain ⟨i,hi,h | h⟩:=mem_frA.1 h
 · obtain ⟨hh,rfl⟩:=h
   rw [frP_eq]
   cases e:frN (fun i=>frP s (x.c i)) (hitF s x) (preF x) i with
   | nil=>exact ⟨preF x i,frN_up (i:=i+1) (by omega) (by simp [frN,hh,e]),fun _ h=>h⟩
   | cons g r =>
     have hg:g ∈ frN (fun i=>frP s (x.c i)) (hitF s x) (preF x) i:=by rw [e];simp
     refine ⟨g,frN_up (by omega) hg,?_⟩
     obtain ⟨j,hj,h | h⟩:=mem_frN hg
     · rw [h.2];exact nle_pre x (by omega)
     · intro t ht
       obtain ⟨z,h1,h2⟩:=mem_nmW.1 (frA_in (frP_sub h) t ht)
       obtain ⟨q,hq,h3⟩:=mem_ndF.1 h1
       exact mem_nmW.2 ⟨z,mem_ndF.2 ⟨j,hj,mem_ndP.2 (.inr ⟨q,hq,h3⟩)⟩,h2⟩
 · obtain ⟨g,hg,hle⟩:=ih i hi h
   refine ⟨g,?_,hle⟩
   rw [frP_eq]
   exact frN_up (i:=i+1) (by omega) (by simp [frN,hg])
def aheadL (s:ByteArray) (x:Pt):List ByteArray :=
 match frA s x with
 | []=>[]
 | f :: r=>(intoAll [] (nmW (ndF f))).filter fun t=>r.all fun g=>memB (nmW (ndF g)) t
theorem sorted_filter (p:ByteArray→Bool):∀ l:List ByteArray,Sorted l→Sorted (l.filter p)
 | [],_=>trivial
 | a :: l,h=>by
   have ih:=sorted_filter p l h.2
   by_cases hp:p a=true
   · rw [List.filter_cons_of_pos hp]
     exact ⟨fun b hb=>h.1 b (List.mem_filter.1 hb).1,ih⟩
   · rw [List.filter_cons_of_neg hp];exact ih
theorem aheadL_sorted (s:ByteArray) (x:Pt):Sorted (aheadL s x):=by
 unfold aheadL
 split
 · trivial
 · exact sorted_filter _ _ (sorted_intoAll _ _ trivial)
theorem mem_aheadL {s t:ByteArray} {x:Pt}:t ∈ aheadL s x ↔ frA s x ≠ []∧∀ g ∈ frA s x,t ∈ nmW (ndF g):=by
 unfold aheadL
 cases e:frA s x with
 | nil=>simp
 | cons f r =>
   simp only [List.mem_filter,mem_intoAll,List.all_eq_true,memB_iff]
   simp
theorem mem_ahead {s t:ByteArray} {x:Pt}:t ∈ aheadL s x ↔ frP s x ≠ []∧∀ g ∈ frP s x,t ∈ nmW (ndF g):=by
 rw [mem_aheadL]
 constructor
 · rintro ⟨h1,h2⟩
   obtain ⟨y,hy⟩:=List.exists_mem_of_ne_nil _ h1
   obtain ⟨g,hg,_⟩:=frA_over hy
   exact ⟨List.ne_nil_of_mem hg,fun g hg=>h2 g (frP_sub hg)⟩
 · rintro ⟨h1,h2⟩
   obtain ⟨y,hy⟩:=List.exists_mem_of_ne_nil _ h1
   refine ⟨List.ne_nil_of_mem (frP_sub hy),fun g hg=>?_⟩
   obtain ⟨q,hq,hle⟩:=frA_over hg
   exact hle t (h2 q hq)
def gapN (L:List Pt) (s:ByteArray):Nat→Nat
 | 0=>0
 | k+1=>if gapN L s k=k∧memB (nmW (ndF (L.getD k .nil))) s=true then k+1 else gapN L s k
theorem gapN_le (L:List Pt) (s:ByteArray):∀ k,gapN L s k≤k
 | 0=>Nat.le_refl _
 | k+1=>by
   have:=gapN_le L s k
   simp only [gapN]
   split <;> omega
theorem gapN_full {L:List Pt} {s:ByteArray}:∀ {k:Nat},gapN L s k=k ↔ ∀ i,i < k→s ∈ nmW (ndF (L.getD i .nil))
 | 0=>by simp [gapN]
 | k+1=>by
   have h1:=gapN_le L s k
   have h2:=gapN_full (L:=L) (s:=s) (k:=k)
   simp only [gapN]
   constructor
   · intro h i hi
     split at h
     · rename_i hh
       by_cases e:i=k
       · rw [e];exact memB_iff.1 hh.2
       · exact h2.1 hh.1 i (by omega)
     · omega
   · intro h
     rw [if_pos ⟨h2.2 fun i hi=>h i (by omega),memB_iff.2 (h k (by omega))⟩]
def gapM (L:List Pt) (k:Nat) (pre:List Pt) (s:ByteArray):Nat:=if gapN L s k=k∧memB (nmW pre) s=true then k+1 else gapN L s k
theorem gapM_nil (L:List Pt) (k:Nat) (s:ByteArray):gapM L k [] s=gapN L s k:=by simp [gapM,nmW,memB]
theorem memB_snoc (l:List Pt) (y:Pt) (s:ByteArray):memB (nmW (l ++ [y])) s=(memB (nmW l) s || (isAM y && decide (y.s=s))):=by
 rw [Bool.eq_iff_iff,memB_iff,Bool.or_eq_true,memB_iff,mem_nmW,mem_nmW]
 constructor
 · rintro ⟨z,hz,h1,h2⟩
   rcases List.mem_append.1 hz with h | h
   · exact .inl ⟨z,h,h1,h2⟩
   · rw [List.mem_singleton] at h
     subst h
     exact .inr (by rw [h1,h2];simp)
 · rintro (⟨z,hz,h1,h2⟩ | h)
   · exact ⟨z,List.mem_append.2 (.inl hz),h1,h2⟩
   · rw [Bool.and_eq_true] at h
     exact ⟨y,by simp,h.1,by simpa using h.2⟩
theorem gapM_skip {L:List Pt} {k:Nat} {pre:List Pt} {y:Pt} (h:isAM y=false ∨ gapM L k pre y.s ≠ k) (s:ByteArray):gapM L k (pre ++ [y]) s=gapM L k pre s:=by
 unfold gapM
 rw [memB_snoc]
 rcases h with h | h
 · simp [h]
 · by_cases e:y.s=s
   · subst e
     unfold gapM at h
     by_cases h1:gapN L y.s k=k
     · cases h2:memB (nmW pre) y.s with
       | true=>simp [h1]
       | false=>rw [if_neg (by simp [h2])] at h;exact absurd h1 h
     · simp [h1]
   · simp [e]
theorem gapM_hit {L:List Pt} {k:Nat} {pre:List Pt} {y:Pt} (h:isAM y=true) (hk:gapM L k pre y.s=k) (s:ByteArray):gapM L k (pre ++ [y]) s=if s=y.s then k+1 else gapM L k pre s:=by
 have h1:gapN L y.s k=k:=by
  have:=gapN_le L y.s k
  unfold gapM at hk
  split at hk <;> omega
 unfold gapM
 rw [memB_snoc]
 by_cases e:s=y.s
 · subst e
   simp [h,h1]
 · have e':¬ y.s=s:=fun q=>e q.symm
   simp [e,e']
end Go.Proofs.YtkfpgkohkhhlhaaGreatDoor
