/- Texts that the last one stands on. -/
import Derived.Test.YtkfpgkohkhhlhaaGreatDoorSWlEach
set_option maxRecDepth 100000
set_option maxHeartbeats 8000000
namespace Go.Proofs.YtkfpgkohkhhlhaaGreatDoor
open Go.RowKit
def itemZ (L:ByteArray→ByteArray→Option Int) (p:Pt) (x:It):Int :=
 if memB ((fstL p).map (·.s)) x.s = true then
  (if memB (ofK 6 (ndP p)) x.s = true then 6
   else if x.k = 3 then 0
   else if (kindF L x.s x.f).2 = 0 then (if x.k = 4∧¬ (kindF L x.s x.f).1 = 2 then 5 else 0)
   else (kindF L x.s x.f).2)
 else 6
theorem item_cells {w:World} {B:Nat} {t:TypeId} {x:It} (h:w.heap[B]? = some (.cells x.cells t (0,0))):w.cell? ⟨B,0,none⟩ = some (.string x.nm)∧w.cell? ⟨B,1,none⟩ = some (.int .i64 x.k)∧w.cell? ⟨B,2,none⟩ = some (.string x.s)∧w.cell? ⟨B,3,none⟩ = some (.string x.f):=by
 refine ⟨?_,?_,?_,?_⟩ <;> simp [World.cell?,h]
theorem drewN_below (w:World) (q:Nat):Below w.heap.size w (w.drewN q):=⟨rfl,rfl,rfl,Nat.le_refl _,fun _ _=>rfl⟩
theorem item_any (w0 W:World) (b:Nat) (bk:Value) (q:Qy) (ns:Nat) (Q:Nat→Sch) (N T:Addr) (h:Ctx w0 W b bk q ns Q N T) (x:It) (hx:rightI x = true) :
 Calls Tryz.prog 122 #[.pointer (some ⟨b,0,none⟩),x.val] W fun e w'=>∃ z v,e = .returned v∧z = itemZ (lookW q.p ns Q) q.p x∧ErrW z v∧Below W.heap.size W w':=by
 obtain ⟨A,hA⟩:∃ A,W.alloc (.cells x.cells 77) = A:=⟨_,rfl⟩
 have hBA:Below W.heap.size W A:=by rw [← hA];exact (Below.refl _ W).alloc (Nat.le_refl _) _
 have hA4:A.heap[W.heap.size]? = some (.cells x.cells 77 (0,0)):=by rw [← hA];exact alloc_new W _
 have hsA:A.heap.size = W.heap.size + 1:=by rw [← hA];simp
 have hC:=h.later hBA
 obtain ⟨av,cv,a6,c6,a5,c5,po,hAB,hTx,h6,-⟩:=hC.ask
 have l6:=ofK_len 6 (ndP q.p)
 rw [length_ndP] at l6
 have hps:q.p.size ≤ 1048576:=by have:=h.sm;unfold Qy.bulk at this;omega
 have lv:(fstL q.p).length ≤ 1048576:=by
  have h1:=length_firstL (usesP q.p)
  have h2:=length_uses q.p
  show (firstL (usesP q.p)).length ≤ _
  omega
 have CV:Hid (∀ d,Below A.heap.size A d→Calls Tryz.prog 42 #[.slice av (fstL q.p).length cv,.string x.s] d (RV (.bool (memB ((fstL q.p).map (·.s)) x.s)) d)):=fun d hd=>(containsS_any av _ cv ((fstL q.p).map (·.s)) x.s d (hTx.later hd) (by simp) (by omega)).mono fun e w' ⟨h1,k,h2⟩=>⟨h1,by rw [h2];exact drewN_below _ _⟩
 have C6:Hid (∀ d,Below A.heap.size A d→Calls Tryz.prog 42 #[.slice a6 (ofK 6 (ndP q.p)).length c6,.string x.s] d (RV (.bool (memB (ofK 6 (ndP q.p)) x.s)) d)):=fun d hd=>(containsS_any a6 _ c6 (ofK 6 (ndP q.p)) x.s d (h6.later hd) rfl (by omega)).mono fun e w' ⟨h1,k,h2⟩=>⟨h1,by rw [h2];exact drewN_below _ _⟩
 have hnm:nameB x.s = true∧(¬ x.k = 3→nameB x.f = true):=by
  simp only [rightI,Bool.and_eq_true] at hx
  refine ⟨hx.2.1,fun h3=>?_⟩
  have:=hx.2.2.2.2
  rwa [if_neg h3] at this
 have CK:Hid (¬ x.k = 3→∀ d,Below A.heap.size A d→Calls Tryz.prog 118 #[.pointer (some ⟨b,0,none⟩),.string x.s,.string x.f] d (RV (.tuple #[.int .i64 (kindF (lookW q.p ns Q) x.s x.f).1,.int .i64 (kindF (lookW q.p ns Q) x.s x.f).2]) d)):=fun h3 d hd=>kindW_any w0 d b bk q ns Q N T (hC.later hd) _ _ hnm.1 (hnm.2 h3)
 obtain ⟨m1,hm1⟩:∃ m1,m1 = memB ((fstL q.p).map (·.s)) x.s:=⟨_,rfl⟩
 obtain ⟨m6,hm6⟩:∃ m6,m6 = memB (ofK 6 (ndP q.p)) x.s:=⟨_,rfl⟩
 obtain ⟨kk,hkk⟩:∃ kk,kk = kindF (lookW q.p ns Q) x.s x.f:=⟨_,rfl⟩
 have HZ:Hid (itemZ (lookW q.p ns Q) q.p x = if m1 = true then (if m6 = true then 6 else if x.k = 3 then 0 else if kk.2 = 0 then (if x.k = 4∧¬ kk.1 = 2 then 5 else 0) else kk.2) else 6):=by rw [hm1,hm6,hkk];rfl
 obtain ⟨r,hr⟩:∃ r,r = itemZ (lookW q.p ns Q) q.p x:=⟨_,rfl⟩
 rw [← hr] at HZ ⊢
 rw [← hm1] at CV
 rw [← hm6] at C6
 rw [← hkk] at CK
 obtain ⟨d12,d13,-,-⟩:=hAB.made
 obtain ⟨j0,j1,j2,j3⟩:=itAt_box hA4
 simp only [Nat.zero_add] at j1 j2 j3
 have HAB:=hid hAB
 have H4:=hid hA4
 have HBA:=hid hBA
 clear h hx hBA hC hAB hTx h6 l6 hps lv hnm hm1 hm6 hkk hr hA4
 cases m1 with
 | false =>
   have HR:Hid (6 = r):=by show _ = _;rw [HZ.out];rfl
   clear HZ C6 CK
   go_enter Tryz.func122,Tryz.ntmps122
   go_wp2
   refine bg fun d hHeld=>?_
   have hT:=hHeld
   refine tk 0 ?_
   refine tk 1 ?_
   refine tk 2 ?_
   refine tk 3 ?_ (hy:=fun w9 hSw=>by obtain ⟨g12,g13,-,-⟩:=(HAB.out.later hSw).made;go_simp;(try with_reducible rfl))
   refine tk 4 ?_
   refine tk 5 ?_ (hy:=fun w9 hSw=>by obtain ⟨-,-,i2,-⟩:=item_cells (((hSw).block _ (by omega)).trans H4.out);go_simp;(try with_reducible rfl))
   refine rd 6 fun K hK=>?_
   go_simp
   refine (CV.out _ hT).mono ?_
   rintro e x6 ⟨rfl,hN6⟩
   go_wp2_with fail
   refine up hK hHeld hN6 ?_
   replace hT:=hT.trans (hN6.mono hT.size)
   replace hHeld:=Below.refl x6.heap.size x6
   clear hK K hN6
   refine tk 7 ?_
   refine tk 8 ?_
   refine tn 9 ?_
   refine tn 10 ?_
   refine tn 11 ?_
   refine tn 12 ?_
   refine tn 13 ?_
   refine tn 14 ?_
   refine tn 15 ?_
   refine tk 16 ?_
   refine dn ?_
   obtain ⟨V,hV⟩:∃ V,V = x6:=⟨_,rfl⟩
   rw [← hV] at hT ⊢
   clear hV hHeld
   go_wp2
   go_ret
   exact ⟨6,_,rfl,HR.out,.inr ⟨by decide,.base 6,rfl,rfl⟩,HBA.out.trans (hT.mono HBA.out.size)⟩
 | true =>
   rw [if_pos rfl] at HZ
   go_enter Tryz.func122,Tryz.ntmps122
   go_wp2
   refine bg fun d hHeld=>?_
   have hT:=hHeld
   refine tk 0 ?_
   refine tk 1 ?_
   refine tk 2 ?_
   refine tk 3 ?_ (hy:=fun w9 hSw=>by obtain ⟨g12,g13,-,-⟩:=(HAB.out.later hSw).made;go_simp;(try with_reducible rfl))
   refine tk 4 ?_
   refine tk 5 ?_ (hy:=fun w9 hSw=>by obtain ⟨-,-,i2,-⟩:=item_cells (((hSw).block _ (by omega)).trans H4.out);go_simp;(try with_reducible rfl))
   refine rd 6 fun K hK=>?_
   go_simp
   refine (CV.out _ hT).mono ?_
   rintro e x6 ⟨rfl,hN6⟩
   go_wp2_with fail
   refine up hK hHeld hN6 ?_
   replace hT:=hT.trans (hN6.mono hT.size)
   replace hHeld:=Below.refl x6.heap.size x6
   clear hK K hN6
   refine tk 7 ?_
   refine tk 8 ?_
   refine tk 9 ?_
   refine tk 10 ?_
   refine tk 11 ?_
   refine tk 12 ?_ (hy:=fun w9 hSw=>by obtain ⟨g12,g13,-,-⟩:=(HAB.out.later (hT.trans (hSw.mono hT.size))).made;go_simp;(try with_reducible rfl))
   refine tk 13 ?_
   refine tk 14 ?_ (hy:=fun w9 hSw=>by obtain ⟨-,-,i2,-⟩:=item_cells ((((hT.trans (hSw.mono hT.size))).block _ (by omega)).trans H4.out);go_simp;(try with_reducible rfl))
   refine rd 15 fun K hK=>?_
   go_simp
   refine (C6.out _ hT).mono ?_
   rintro e x15 ⟨rfl,hN15⟩
   go_wp2_with fail
   refine up hK hHeld hN15 ?_
   replace hT:=hT.trans (hN15.mono hT.size)
   replace hHeld:=Below.refl x15.heap.size x15
   clear hK K hN15
   refine tk 16 ?_
   refine dn ?_
   obtain ⟨V,hV⟩:∃ V,V = x15:=⟨_,rfl⟩
   rw [← hV] at hT ⊢
   clear hV hHeld
   have HT:=hid hT
   have HW:Hid (Below W.heap.size W V):=HBA.out.trans (hT.mono HBA.out.size)
   obtain ⟨i0,i1,i2,i3⟩:=item_cells ((hT.block _ (by omega)).trans H4.out)
   clear hT CV C6
   cases m6 with
   | true =>
     have HR:Hid (6 = r):=by show _ = _;rw [HZ.out];rfl
     clear HZ CK
     go_wp2
     go_ret
     exact ⟨6,_,rfl,HR.out,.inr ⟨by decide,.base 6,rfl,rfl⟩,HW.out⟩
   | false =>
     rw [if_neg (by decide)] at HZ
     by_cases h3:x.k = 3
     · have HR:Hid (0 = r):=by show _ = _;rw [HZ.out,if_pos h3]
       have t3:(x.k == 3) = true:=by simp [h3]
       clear HZ CK h3
       go_wp2
       go_ret
       exact ⟨0,_,rfl,HR.out,.inl ⟨rfl,rfl⟩,HW.out⟩
     · have t3:(x.k == 3) = false:=by simp [h3]
       rw [if_neg h3] at HZ
       have CK':=CK.out h3 V HT.out
       clear CK h3
       by_cases e0:kk.2 = 0
       · have t0:(kk.2 != 0) = false:=by simp [e0]
         rw [if_pos e0] at HZ
         by_cases h4:x.k = 4
         · have t4:(x.k == 4) = true:=by simp [h4]
           by_cases h5:kk.1 = 2
           · have HR:Hid (0 = r):=by show _ = _;rw [HZ.out,if_neg (fun q=>q.2 h5)]
             have t5:(kk.1 != 2) = false:=by simp [h5]
             clear HZ h4 h5 e0
             go_wp2_with (first
              | (go_at_call 118;refine CK'.mono ?_;clear CK';rintro e w2 ⟨rfl,hB2⟩;obtain ⟨-,k1,-,-⟩:=item_cells (((HT.out.trans (hB2.mono HT.out.size)).block _ (by omega)).trans H4.out))
              | (go_at_call 111;refine (refusedIf_any _ 5 _).mono ?_;rintro e w3 ⟨rfl,rfl⟩))
             go_ret
             exact ⟨0,_,rfl,HR.out,.inl ⟨rfl,rfl⟩,HW.out.trans (hB2.mono HW.out.size)⟩
           · have HR:Hid (5 = r):=by show _ = _;rw [HZ.out,if_pos ⟨h4,h5⟩]
             have t5:(kk.1 != 2) = true:=by simp [h5]
             clear HZ h4 h5 e0
             go_wp2_with (first
              | (go_at_call 118;refine CK'.mono ?_;clear CK';rintro e w2 ⟨rfl,hB2⟩;obtain ⟨-,k1,-,-⟩:=item_cells (((HT.out.trans (hB2.mono HT.out.size)).block _ (by omega)).trans H4.out))
              | (go_at_call 111;refine (refusedIf_any _ 5 _).mono ?_;rintro e w3 ⟨rfl,rfl⟩))
             go_ret
             exact ⟨5,_,rfl,HR.out,.inr ⟨by decide,.base 5,rfl,rfl⟩,HW.out.trans (hB2.mono HW.out.size)⟩
         · have t4:(x.k == 4) = false:=by simp [h4]
           have HR:Hid (0 = r):=by show _ = _;rw [HZ.out,if_neg (fun q=>h4 q.1)]
           clear HZ h4 e0
           go_wp2_with (first
            | (go_at_call 118;refine CK'.mono ?_;clear CK';rintro e w2 ⟨rfl,hB2⟩;obtain ⟨-,k1,-,-⟩:=item_cells (((HT.out.trans (hB2.mono HT.out.size)).block _ (by omega)).trans H4.out))
            | (go_at_call 111;refine (refusedIf_any _ 5 _).mono ?_;rintro e w3 ⟨rfl,rfl⟩))
           go_ret
           exact ⟨0,_,rfl,HR.out,.inl ⟨rfl,rfl⟩,HW.out.trans (hB2.mono HW.out.size)⟩
       · have t0:(kk.2 != 0) = true:=by simp [e0]
         have HR:Hid (kk.2 = r):=by show _ = _;rw [HZ.out,if_neg e0]
         have HE0:=hid e0
         clear HZ e0
         go_wp2_with (first
          | (go_at_call 118;refine CK'.mono ?_;clear CK';rintro e w2 ⟨rfl,hB2⟩))
         go_ret
         exact ⟨kk.2,_,rfl,HR.out,.inr ⟨HE0.out,.base kk.2,rfl,rfl⟩,HW.out.trans (hB2.mono HW.out.size)⟩
theorem items_any (w0 W:World) (b:Nat) (bk:Value) (q:Qy) (ns:Nat) (Q:Nat→Sch) (N T:Addr) (h:Ctx w0 W b bk q ns Q N T) (hF:Fine q) :
 Calls Tryz.prog 70 #[.pointer (some ⟨b,0,none⟩)] W fun e w'=>∃ z v,e = .returned v∧FstR (fun i z=>z = itemZ (lookW q.p ns Q) q.p (q.it i)) q.m z∧ErrW z v∧Below W.heap.size W w':=by
 obtain ⟨av,cv,a6,c6,a5,c5,po,hAB,-⟩:=h.ask
 obtain ⟨-,-,-,-,d11⟩:=hAB.rest
 have C:=eachI_any q.ia q.m q.icap q.it W (by have:=h.isq.len;omega) (fun d hd=>h.isq.it.later (h.below.trans (hd.mono h.below.size))) (fun i z=>z = itemZ (lookW q.p ns Q) q.p (q.it i)) (.pointer (some ⟨b,0,none⟩)) (fun i hi d hd=>item_any w0 d b bk q ns Q N T (h.later hd) (q.it i) (hF.it i hi))
 clear h hF hAB
 go_enter Tryz.func70,Tryz.ntmps70
 go_wp2_with (go_at_call 121;refine C.mono ?_;clear C;rintro e w1 ⟨z,v,rfl,hz,hv,hB1⟩)
 go_ret
 exact ⟨z,v,rfl,hz,hv,hB1⟩
open Go.Extern.Stop Go.Stop Go.Extern
abbrev tgtV (b:Nat):Value:=.iface 67 (.pointer (some ⟨b,0,none⟩))
theorem as_nil (b:Nat) (w:World):Calls Tryz.prog 23 #[.nilIface,tgtV b] w fun e w'=>e = .returned (.bool false)∧w' = w:=by
 go_enter Tryz.func23,Tryz.ntmps23
 go_wp2
 go_ret
 exact ⟨rfl,rfl⟩
theorem as_any (y:Rfs) (b:Nat) (z:Int) (w:World) (hb:Boxed w b 63 (.int .i64 z)) (hE:w.cell? ⟨0,0,none⟩ = some (rty 66)) :
 Calls Tryz.prog 23 #[y.val,tgtV b] w fun e w'=>e = .returned (.bool true)∧Boxed w' b 63 (.int .i64 y.root)∧Below b w w':=by
 have vO:=Tryz.asValueOf
 have tT:=Tryz.asType
 have kP:=Tryz.asKindP
 have kR:=Tryz.asKindR
 have eT:=Tryz.asElemT
 have iM:=Tryz.asImpl
 have mK:=Tryz.asMKind
 have mE:=Tryz.asMElem
 have mI:=Tryz.asMImpl
 obtain ⟨A,hA⟩:∃ A,w.alloc (.cells #[.pointer (some ⟨b,0,none⟩)] 67) = A:=⟨_,rfl⟩
 have hBA:Below w.heap.size w A:=by rw [← hA];exact nwB w _
 have hvb:A.cell? ⟨w.heap.size,0,none⟩ = some (.pointer (some ⟨b,0,none⟩)):=by rw [← hA];exact (Boxed.new w _ _).cell
 have hsA:A.heap.size = w.heap.size + 1:=by rw [← hA];simp
 have hEA:=cell_later hE hBA
 have hbA:Boxed A b 63 (.int .i64 z):=Boxed.kept_of hb hBA hb.lt
 have iN:=fun V (h:V.cell? ⟨w.heap.size,0,none⟩ = some (.pointer (some ⟨b,0,none⟩)))=>Tryz.asIsNil w.heap.size ⟨b,0,none⟩ V h
 have C:Hid (∀ V,Below A.heap.size A V→Calls Tryz.prog 74 #[y.val,tgtV b,asV w.heap.size,rty 63] V fun e w'=>e = .returned (.bool true)∧Boxed w' b 63 (.int .i64 y.root)∧Below b V w'):=fun V hV=>as_loop y b w.heap.size z V (tgtV b) (Boxed.kept_of hbA hV (by have:=hb.lt;omega)) (cell_later hvb hV)
 have hblt:=hb.lt
 obtain ⟨t,u,hy⟩:=y.iface
 rw [hy] at C ⊢
 clear hb hE hbA
 go_enter Tryz.func23,Tryz.ntmps23
 go_wp2_with (go_at_call 74;refine (C.out _ (by first | exact Below.refl _ _ | exact nwB _ _)).mono ?_;rintro e w2 ⟨rfl,hb2,hB2⟩)
 go_ret
 refine ⟨rfl,hb2,(hBA.mono (Nat.le_of_lt hblt)).trans ?_⟩
 first | exact hB2 | exact ((Below.refl _ _).alloc (by omega) _).trans hB2
def Az (q:Qy) (ns:Nat) (Q:Nat→Sch):Nat→Int→Prop
 | 0,z=>z = if bookZ ns Q = 0 then 0 else 1
 | 1,z=>z = chkQ q
 | 2,z=>MadeZ q.p z
 | 3,z=>(z = 4 ∨ z = 0)∧(z = 4 ↔ (∃ i,HasTail q.p i)∧q.win = 0)
 | 4,z=>z = newZ (fstL q.p).length (fstL q.p).length (fstT q.p) ns Q
 | 5,z=>FstR (fun i=>CondR (lookW q.p ns Q) q.p (q.c i)) q.n z
 | 6,z=>(q.key = ⟨#[]⟩∧z = 0) ∨ (¬ q.key = ⟨#[]⟩∧FstR (KeyR (lookW q.p ns Q) (fstV q.p) q.key) (fstL q.p).length z)
 | 7,z=>FstR (fun i z=>z = itemZ (lookW q.p ns Q) q.p (q.it i)) q.m z
 | _,_=>False
abbrev WellR (q:Qy) (ns:Nat) (Q:Nat→Sch) (z:Int):Prop:=FstR (Az q ns Q) 8 z
theorem made_one {x:Pt} {z z':Int} (h:MadeZ x z) (h':MadeZ x z'):z = z':=by
 rcases h with ⟨a,rfl⟩ | ⟨a,b,rfl⟩ | ⟨a,b,rfl⟩ <;> rcases h' with ⟨c,rfl⟩ | ⟨c,d,rfl⟩ | ⟨c,d,rfl⟩ <;> first | rfl | exact absurd c a | exact absurd a c | exact absurd b d | exact absurd d b
theorem az_one {q:Qy} {ns:Nat} {Q:Nat→Sch}:∀ i,i < 8→∀ z z',Az q ns Q i z→Az q ns Q i z'→z = z'
 | 0,_,_,_,h,h'=>Eq.trans h (Eq.symm h')
 | 1,_,_,_,h,h'=>Eq.trans h (Eq.symm h')
 | 2,_,_,_,h,h'=>made_one h h'
 | 3,_,z,z',h,h'=>by
   obtain ⟨a,b⟩:=h
   obtain ⟨a',b'⟩:=h'
   rcases a with rfl | rfl <;> rcases a' with rfl | rfl
   · rfl
   · exact (b'.2 (b.1 rfl)).symm
   · exact b.2 (b'.1 rfl)
   · rfl
 | 4,_,_,_,h,h'=>Eq.trans h (Eq.symm h')
 | 5,_,_,_,h,h'=>FstR.one (R:=fun i=>CondR (lookW q.p ns Q) q.p (q.c i)) (fun _ _ _ _ h1 h2=>h1.one h2) h h'
 | 6,_,_,_,h,h'=>by
   rcases h with ⟨a,rfl⟩ | ⟨a,b⟩ <;> rcases h' with ⟨c,rfl⟩ | ⟨c,d⟩
   · rfl
   · exact absurd a c
   · exact absurd c a
   · exact FstR.one (R:=KeyR (lookW q.p ns Q) (fstV q.p) q.key) (fun _ _ _ _ e e'=>Eq.trans e (Eq.symm e')) b d
 | 7,_,_,_,h,h'=>FstR.one (R:=fun i z=>z = itemZ (lookW q.p ns Q) q.p (q.it i)) (fun _ _ _ _ e e'=>Eq.trans e (Eq.symm e')) h h'
theorem WellR.one {q:Qy} {ns:Nat} {Q:Nat→Sch} {z z':Int} (h:WellR q ns Q z) (h':WellR q ns Q z'):z = z':=FstR.one az_one h h'
def fnK:Nat→Nat
 | 0=>63
 | 1=>64
 | 2=>65
 | 3=>66
 | 4=>67
 | 5=>68
 | 6=>69
 | _=>70
def St (w:World) (b:Nat) (a:Option Addr) (ns cs:Nat) (Q:Nat→Sch) (q:Qy) (k:Nat) (W:World):Prop :=
 (∀ j,j < k→Az q ns Q j 0)∧Below w.heap.size w W∧(k ≤ 4→AB W b (.slice a ns cs) q (.slice none 0 0) (.slice none 0 0) (.slice none 0 0) (.pointer none))∧(4 < k→Asked W b (.slice a ns cs) q ns Q)
theorem St.later {w W W':World} {b:Nat} {a:Option Addr} {ns cs:Nat} {Q:Nat→Sch} {q:Qy} {k:Nat} (h:St w b a ns cs Q q k W) (hB:Below W.heap.size W W'):St w b a ns cs Q q k W' :=
 ⟨h.1,h.2.1.trans (hB.mono h.2.1.size),fun h4=>(h.2.2.1 h4).later hB,fun h4=>(h.2.2.2 h4).later hB⟩
theorem St.next {w W W':World} {b:Nat} {a:Option Addr} {ns cs:Nat} {Q:Nat→Sch} {q:Qy} {k:Nat} (h:St w b a ns cs Q q k W) (hB:Below W.heap.size W W') (hz:Az q ns Q k 0) (hk:k ≠ 4):St w b a ns cs Q q (k + 1) W':=by
 refine ⟨fun j hj=>?_,h.2.1.trans (hB.mono h.2.1.size),fun h4=>(h.2.2.1 (by omega)).later hB,fun h4=>(h.2.2.2 (by omega)).later hB⟩
 by_cases e:j = k
 · rw [e];exact hz
 · exact h.1 j (by omega)
def Stage (w:World) (b:Nat) (a:Option Addr) (ns cs:Nat) (Q:Nat→Sch) (q:Qy) (k:Nat) (W:World) (e:Ending) (w':World):Prop :=
 ∃ z v,e = .returned v∧Az q ns Q k z∧ErrW z v∧(z = 0→St w b a ns cs Q q (k + 1) w')∧Bt b W w'
theorem keyNone_any (b:Nat) (bk:Value) (q:Qy) (vv nv mv pv:Value) (W:World) (h:AB W b bk q vv nv mv pv) (hk:q.key = ⟨#[]⟩):Calls Tryz.prog 69 #[.pointer (some ⟨b,0,none⟩)] W fun e w'=>e = .returned .nilIface∧Below W.heap.size W w':=by
 obtain ⟨A,hA⟩:∃ A,W.alloc (.cells #[.pointer (some ⟨b,0,none⟩)] 56) = A:=⟨_,rfl⟩
 have hBA:Below W.heap.size W A:=by rw [← hA];exact (Below.refl _ W).alloc (Nat.le_refl _) _
 have c1:A.cell? ⟨W.heap.size,0,none⟩ = some (.pointer (some ⟨b,0,none⟩)):=by rw [← hA];exact (Boxed.new W _ _).cell
 obtain ⟨-,d8,-⟩:=(h.later hBA).rest
 rw [hk] at d8
 clear h hk
 go_enter Tryz.func69,Tryz.ntmps69
 go_wp2
 go_ret
 exact ⟨rfl,hBA⟩
theorem stage_any (w:World) (b:Nat) (a:Option Addr) (ns cs:Nat) (Q:Nat→Sch) (q:Qy) (N T:Addr) (hb:w.heap.size ≤ b) (hS:Schs w a ns Q) (hQ:IsQ w q) (hok:QOk q) (hsm:q.bulk ≤ 1048576) (hSe:Sens w N T) :
 ∀ (k:Nat) (W:World),k < 8→St w b a ns cs Q q k W→Calls Tryz.prog (fnK k) #[.pointer (some ⟨b,0,none⟩)] W (Stage w b a ns cs Q q k W):=by
 intro k W hk h
 have hps:q.p.size ≤ 1048576:=by unfold Qy.bulk at hsm;omega
 have hlt:b < W.heap.size:=by
  by_cases h4:k ≤ 4
  · exact (h.2.2.1 h4).lt
  · obtain ⟨_,_,_,_,_,_,_,hAB,_⟩:=h.2.2.2 (by omega)
    exact hAB.lt
 have easy:k ≠ 4→∀ {e:Ending} {w':World},(∃ z v,e = .returned v∧Az q ns Q k z∧ErrW z v∧Below W.heap.size W w')→Stage w b a ns cs Q q k W e w':=fun hk4 {e w'} ⟨z,v,h1,h2,h3,h4⟩=>⟨z,v,h1,h2,h3,fun hz=>h.next h4 (hz ▸ h2) hk4,.of_below h4 (Nat.le_of_lt hlt)⟩
 have ctx:4 < k→Ctx w W b (.slice a ns cs) q ns Q N T:=fun h4=>⟨h.2.1,h.2.2.2 h4,(h.1 4 h4).symm,hQ,hok,hsm,hSe⟩
 have fine:1 < k→Fine q:=fun h1=>fine_of (h.1 1 h1).symm
 match k,hk with
 | 0,_=>exact (schemas_any b _ q _ _ _ _ W (h.2.2.1 (by omega)) a ns cs Q rfl (hS.later h.2.1)).mono fun e w' ⟨v,h1,h2,h3⟩=>easy (by omega) ⟨_,v,h1,rfl,h2,h3⟩
 | 1,_=>exact (clauses_any b _ q _ _ _ _ W (h.2.2.1 (by omega)) (hQ.later h.2.1) hok hsm).mono fun e w' ⟨v,h1,h2,h3⟩=>easy (by omega) ⟨_,v,h1,rfl,h2,h3⟩
 | 2,_=>exact (pattern_any b _ q _ _ _ _ W (h.2.2.1 (by omega)) (hQ.p.later h.2.1) hok.p hps).mono fun e w' ⟨z,v,h0,h1,h2,h3⟩=>easy (by omega) ⟨z,v,h1,h0,h2,h3⟩
 | 3,_=>exact (tailW_any b _ q _ _ _ _ W (h.2.2.1 (by omega)) (hQ.p.later h.2.1) hps).mono fun e w' ⟨z,v,h0,h1,h2,h3,h4⟩=>easy (by omega) ⟨z,v,h2,⟨h0,h1⟩,h3,h4⟩
 | 4,_ =>
   refine (types_any w b a ns cs Q q W (h.2.2.1 (by omega)) hb h.2.1 hS hQ.p hps hok.p).mono fun e w' ⟨v,h1,h2,h3,h4⟩=>⟨_,v,h1,rfl,h2,fun hz=>⟨fun j hj=>?_,h.2.1.trans (h3.1.mono hb),fun q=>by omega,fun _=>h4⟩,h3⟩
   by_cases e:j = 4
   · rw [e];exact hz.symm
   · exact h.1 j (by omega)
 | 5,_=>exact (conditions_any w W b _ q ns Q N T (ctx (by omega))).mono fun e w' h9=>easy (by omega) h9
 | 6,_ =>
   by_cases hk:q.key = ⟨#[]⟩
   · obtain ⟨_,_,_,_,_,_,_,hAB,_⟩:=h.2.2.2 (by omega)
     exact (keyNone_any b _ q _ _ _ _ W hAB hk).mono fun e w' ⟨h1,h2⟩=>easy (by omega) ⟨0,_,h1,.inl ⟨hk,rfl⟩,.inl ⟨rfl,rfl⟩,h2⟩
   · exact (key_any w W b _ q ns Q N T (ctx (by omega)) (fine (by omega)) hk).mono fun e w' ⟨z,v,h1,h2,h3,h4⟩=>easy (by omega) ⟨z,v,h1,.inr ⟨hk,h2⟩,h3,h4⟩
 | 7,_=>exact (items_any w W b _ q ns Q N T (ctx (by omega)) (fine (by omega))).mono fun e w' h9=>easy (by omega) h9
abbrev chkF (j:Nat):Value:=.func (.func (fnK j)) #[] #[]
theorem checks_any (w:World):Calls Tryz.prog 22 #[] w fun e w'=>e = .returned (.slice (some ⟨w.heap.size,0,none⟩) 8 8)∧w' = w.alloc (.cells #[chkF 0,chkF 1,chkF 2,chkF 3,chkF 4,chkF 5,chkF 6,chkF 7] 62):=by
 go_enter Tryz.func22,Tryz.ntmps22
 go_wp2
 go_ret
 exact ⟨rfl,rfl⟩
theorem checkW_any (a:Option Addr) (ns cs:Nat) (Q:Nat→Sch) (q:Qy) (N T:Addr) (w:World) (hS:Schs w a ns Q) (hQ:IsQ w q) (hok:QOk q) (hsm:q.bulk ≤ 1048576) (hSe:Sens w N T) (hE:w.cell? ⟨0,0,none⟩ = some (rty 66)) :
 Calls Tryz.prog 8 #[.slice a ns cs,q.val] w fun e w'=>∃ z,e = .returned (.int .i64 z)∧WellR q ns Q z∧Below w.heap.size w w':=by
 obtain ⟨P0,hP0⟩:∃ P0,w.alloc (.cells q.cells 29) = P0:=⟨_,rfl⟩
 have hqb:QB P0 w.heap.size q:=by rw [← hP0];exact QB.new w q
 have hBP:Below w.heap.size w P0:=by rw [← hP0];exact nwB w _
 have hsP:P0.heap.size = w.heap.size + 1:=by rw [← hP0];simp
 obtain ⟨⟨d0,d1,d2,d3,d4,d5⟩,d6,d7,d8,d9,d10⟩:=hqb.at0
 obtain ⟨A,hA⟩:∃ A,P0.alloc (.cells (askC (.slice a ns cs) q (.slice none 0 0) (.slice none 0 0) (.slice none 0 0) (.pointer none)) 59) = A:=⟨_,rfl⟩
 have hAB:AB A P0.heap.size (.slice a ns cs) q (.slice none 0 0) (.slice none 0 0) (.slice none 0 0) (.pointer none):=by rw [← hA];exact alloc_new P0 _
 have hBA:Below w.heap.size w A:=hBP.trans ((by rw [← hA];exact (Below.refl _ P0).alloc (Nat.le_refl _) _:Below P0.heap.size P0 A).mono (by omega))
 have hsA:A.heap.size = P0.heap.size + 1:=by rw [← hA];simp
 obtain ⟨C,hC⟩:∃ C,A.alloc (.cells #[chkF 0,chkF 1,chkF 2,chkF 3,chkF 4,chkF 5,chkF 6,chkF 7] 62) = C:=⟨_,rfl⟩
 have hBC:Below A.heap.size A C:=by rw [← hC];exact (Below.refl _ A).alloc (Nat.le_refl _) _
 have hCr:C.heap[A.heap.size]? = some (.cells #[chkF 0,chkF 1,chkF 2,chkF 3,chkF 4,chkF 5,chkF 6,chkF 7] 62 (0,0)):=by rw [← hC];exact alloc_new A _
 have hsC:C.heap.size = A.heap.size + 1:=by rw [← hC];simp
 have hSt:St w P0.heap.size a ns cs Q q 0 C:=⟨fun j hj=>absurd hj (Nat.not_lt_zero _),hBA.trans (hBC.mono hBA.size),fun _=>hAB.later hBC,fun h=>absurd h (by decide)⟩
 have HST:Hid (∀ k W,k < 8→St w P0.heap.size a ns cs Q q k W→Calls Tryz.prog (fnK k) #[.pointer (some ⟨P0.heap.size,0,none⟩)] W (Stage w P0.heap.size a ns cs Q q k W)):=stage_any w P0.heap.size a ns cs Q q N T (by omega) hS hQ hok hsm hSe
 have HE:=hid hE
 have HS0:=hid hSt
 have HCr:=hid hCr
 clear hS hQ hok hsm hSe hE hSt hCr hAB hqb
 go_enter Tryz.func8,Tryz.ntmps8
 go_wp2_with (go_at_call 22;refine (checks_any _).mono ?_;rintro e w1 ⟨rfl,rfl⟩)
 rw [hsP] at HST HS0
 rw [hsA,hsP] at HCr
 clear d0 d1 d2 d3 d4 d5 d6 d7 d8 d9 d10 hP0 hA hC
 go_loopw [15] (fun u wr=>∃ k:Nat,k ≤ 8∧u = .int .i64 k∧Hid (St w (w.heap.size + 1) a ns cs Q q k wr)∧Hid (wr.heap[w.heap.size + 1 + 1]? = some (.cells #[chkF 0,chkF 1,chkF 2,chkF 3,chkF 4,chkF 5,chkF 6,chkF 7] 62 (0,0)))) (fun u _=>8 - (intOf u).toNat)
 case atStart=>exact ⟨0,by omega,rfl,HS0,HCr⟩
 case round =>
  obtain ⟨k,hk,rfl,HSk,HRk⟩:=hrel
  by_cases hk8:k < 8
  · obtain ⟨V,hV⟩:∃ V,wr.alloc (.cells #[.int .i64 0] 63) = V:=⟨_,rfl⟩
    have hBV:Below wr.heap.size wr V:=by rw [← hV];exact (Below.refl _ wr).alloc (Nat.le_refl _) _
    have hbV:Boxed V wr.heap.size 63 (.int .i64 0):=by rw [← hV];exact Boxed.new wr _ _
    have hsV:V.heap.size = wr.heap.size + 1:=by rw [← hV];simp
    have CS:=HST.out k V hk8 (HSk.out.later hBV)
    have ck:wr.cell? ⟨w.heap.size + 1 + 1,k,none⟩ = some (chkF k):=by
     match k,hk8 with
     | 0,_=>simp [World.cell?,HRk.out]
     | 1,_=>simp [World.cell?,HRk.out]
     | 2,_=>simp [World.cell?,HRk.out]
     | 3,_=>simp [World.cell?,HRk.out]
     | 4,_=>simp [World.cell?,HRk.out]
     | 5,_=>simp [World.cell?,HRk.out]
     | 6,_=>simp [World.cell?,HRk.out]
     | 7,_=>simp [World.cell?,HRk.out]
    have hsw:w.heap.size + 2 < wr.heap.size:=(Array.getElem?_eq_some_iff.1 HRk.out).1
    have HBT:Hid (∀ w2,Bt (w.heap.size + 1) V w2→Boxed w2 wr.heap.size 63 (.int .i64 0)∧w2.cell? ⟨0,0,none⟩ = some (rty 66)∧Below w.heap.size w w2∧w2.heap[w.heap.size + 1 + 1]? = wr.heap[w.heap.size + 1 + 1]?):=fun w2 h2=>by
     have hB2:Below w.heap.size w w2:=(HSk.out.2.1.trans (hBV.mono (by omega))).trans (h2.1.mono (by omega))
     exact ⟨h2.boxed hbV (by omega),cell_later HE.out hB2,hB2,(h2.2 _ (by omega) (by omega)).trans (hBV.block _ (by omega))⟩
    have HP:Hid (∀ j,j < k→Az q ns Q j 0):=HSk.out.1
    clear hbV hsV hBV HST HSk
    have hor:k = 0 ∨ k = 1 ∨ k = 2 ∨ k = 3 ∨ k = 4 ∨ k = 5 ∨ k = 6 ∨ k = 7:=by omega
    rcases hor with rfl | rfl | rfl | rfl | rfl | rfl | rfl | rfl
    all_goals simp only [fnK,chkF] at CS ck
    all_goals go_wp2_with (first
     | (go_at_call 23;refine (as_any y wr.heap.size 0 w2 hq1 hq2).mono ?_;rintro e w3 ⟨rfl,hb3,hB3⟩;have cb3:=hb3.cell)
     | (go_at_call 23;refine (as_nil _ _).mono ?_;rintro e w3 ⟨rfl,rfl⟩)
     | ((first | go_at_call 63 | go_at_call 64 | go_at_call 65 | go_at_call 66 | go_at_call 67 | go_at_call 68 | go_at_call 69 | go_at_call 70);refine CS.mono ?_;clear CS;rintro e w2 ⟨z,v,rfl,hz,hv,hnx,hBt⟩;obtain ⟨hq1,hq2,hq3,hq4⟩:=HBT.out w2 hBt;have HNX:=hid hnx;have HZ:=hid hz;clear hnx hz hBt;rcases hv with ⟨rfl,rfl⟩ | ⟨hz0,y,hy,rfl⟩))
    all_goals first
     | (go_ret
        exact ⟨z,rfl,.inr ⟨hz0,_,hk8,HP.out,HZ.out⟩,hq3.trans (hB3.mono (by omega))⟩)
     | (go_roundw
        case rel =>
         refine ⟨_,?_,?_,HNX.out (by first | rfl | trivial),?_⟩
         · omega
         · first | rfl | simp
         · show _ = _
           rw [hq4]
           exact HRk.out
        case measure=>simp [intOf])
  · have hk':k = 8:=by omega
    subst hk'
    go_wp2
    go_ret
    exact ⟨0,rfl,.inl ⟨rfl,HSk.out.1⟩,HSk.out.2.1⟩
abbrev tBuy:ByteArray:=⟨#[98,117,121]⟩
abbrev tSell:ByteArray:=⟨#[115,101,108,108]⟩
abbrev tTick:ByteArray:=⟨#[116,105,99,107]⟩
abbrev tA:ByteArray:=⟨#[97]⟩
abbrev flds3:Obj:=.cells #[.string ⟨#[120]⟩,.int .i64 2,.string ⟨#[107]⟩,.int .i64 3,.string ⟨#[98]⟩,.int .i64 1] 112
abbrev flds2:Obj:=.cells #[.string ⟨#[107]⟩,.int .i64 3,.string ⟨#[120]⟩,.int .i64 2] 112
abbrev schs3 (p:Nat):Obj:=.cells #[.string tBuy,.slice (some ⟨p,0,none⟩) 3 3,.string tSell,.slice (some ⟨p,0,none⟩) 3 3,.string tTick,.slice (some ⟨p + 1,0,none⟩) 2 2] 115
def fn3:Nat→ByteArray
 | 0=>⟨#[120]⟩
 | 1=>⟨#[107]⟩
 | _=>⟨#[98]⟩
def fk3:Nat→Int
 | 0=>2
 | 1=>3
 | _=>1
def fn2:Nat→ByteArray
 | 0=>⟨#[107]⟩
 | _=>⟨#[120]⟩
def fk2:Nat→Int
 | 0=>3
 | _=>2
def bookQ (p:Nat):Nat→Sch
 | 0=>⟨tBuy,some ⟨p,0,none⟩,3,3,fn3,fk3⟩
 | 1=>⟨tSell,some ⟨p,0,none⟩,3,3,fn3,fk3⟩
 | _=>⟨tTick,some ⟨p + 1,0,none⟩,2,2,fn2,fk2⟩
theorem bookQ_ok (p:Nat):bookZ 3 (bookQ p) = 0:=by kernel_rfl
abbrev bookW (w:World):World:=((w.alloc flds3).alloc flds2).alloc (schs3 w.heap.size)
theorem book14_any (w:World):Calls Tryz.prog 21 #[] w fun e w'=>e = .returned (.slice (some ⟨w.heap.size + 2,0,none⟩) 3 3)∧w' = bookW w:=by
 go_enter Tryz.func21,Tryz.ntmps21
 go_wp2
 go_ret
 exact ⟨rfl,rfl⟩
theorem cell_of {W:World} {b j:Nat} {c:Array Value} {t:TypeId} {v:Value} (h:W.heap[b]? = some (.cells c t (0,0))) (hv:c[j]? = some v):W.cell? ⟨b,j,none⟩ = some v:=by simp [World.cell?,h,hv]
theorem book14_schs (w:World):Schs (bookW w) (some ⟨w.heap.size + 2,0,none⟩) 3 (bookQ w.heap.size):=by
 have hz1:(w.alloc flds3).heap.size = w.heap.size + 1:=by simp
 have hz2:((w.alloc flds3).alloc flds2).heap.size = w.heap.size + 2:=by simp
 have b3:(bookW w).heap[w.heap.size]? = some flds3:=by
  rw [show bookW w = ((w.alloc flds3).alloc flds2).alloc (schs3 w.heap.size) from rfl,alloc_old (by omega),alloc_old (by omega)]
  exact alloc_new w _
 have b2:(bookW w).heap[w.heap.size + 1]? = some flds2:=by
  rw [show bookW w = ((w.alloc flds3).alloc flds2).alloc (schs3 w.heap.size) from rfl,alloc_old (by omega),← hz1]
  exact alloc_new _ _
 have b1:(bookW w).heap[w.heap.size + 2]? = some (schs3 w.heap.size):=by
  rw [← hz2]
  exact alloc_new _ _
 have F3:Flds (bookW w) (some ⟨w.heap.size,0,none⟩) 3 fn3 fk3:=fun _=>by
  refine ⟨w.heap.size,0,rfl,fun j hj=>?_⟩
  match j,hj with
  | 0,_=>exact ⟨⟨cell_of b3 rfl,cell_of b3 rfl⟩,by decide⟩
  | 1,_=>exact ⟨⟨cell_of b3 rfl,cell_of b3 rfl⟩,by decide⟩
  | 2,_=>exact ⟨⟨cell_of b3 rfl,cell_of b3 rfl⟩,by decide⟩
 have F2:Flds (bookW w) (some ⟨w.heap.size + 1,0,none⟩) 2 fn2 fk2:=fun _=>by
  refine ⟨w.heap.size + 1,0,rfl,fun j hj=>?_⟩
  match j,hj with
  | 0,_=>exact ⟨⟨cell_of b2 rfl,cell_of b2 rfl⟩,by decide⟩
  | 1,_=>exact ⟨⟨cell_of b2 rfl,cell_of b2 rfl⟩,by decide⟩
 refine ⟨fun _=>⟨w.heap.size + 2,0,rfl,fun j hj=>?_⟩,fun j hj=>?_⟩
 · match j,hj with
   | 0,_=>exact ⟨⟨cell_of b1 rfl,cell_of b1 rfl⟩,by show tBuy.size ≤ maxLen;decide⟩
   | 1,_=>exact ⟨⟨cell_of b1 rfl,cell_of b1 rfl⟩,by show tSell.size ≤ maxLen;decide⟩
   | 2,_=>exact ⟨⟨cell_of b1 rfl,cell_of b1 rfl⟩,by show tTick.size ≤ maxLen;decide⟩
 · match j,hj with
   | 0,_=>exact ⟨F3,by show (3:Nat) ≤ _;omega⟩
   | 1,_=>exact ⟨F3,by show (3:Nat) ≤ _;omega⟩
   | 2,_=>exact ⟨F2,by show (2:Nat) ≤ _;omega⟩
def qNil:Qy:=⟨.nil,none,0,0,fun _=>.nil,⟨#[]⟩,0,0,none,0,0,fun _=>⟨⟨#[]⟩,0,⟨#[]⟩,⟨#[]⟩⟩⟩
def qOne:Qy:=⟨.mk 1 tA tBuy 0 0 none 0 0 (fun _=>.nil),none,0,0,fun _=>.nil,⟨#[]⟩,0,0,none,0,0,fun _=>⟨⟨#[]⟩,0,⟨#[]⟩,⟨#[]⟩⟩⟩
theorem qNil_is (w:World):IsQ w qNil:=⟨trivial,⟨Nat.le_refl _,Nat.zero_le _,fun _ hi=>absurd hi (Nat.not_lt_zero _)⟩,fun _ hi=>absurd hi (Nat.not_lt_zero _),Nat.le_refl _,Nat.zero_le _⟩
theorem qOne_is (w:World):IsQ w qOne:=⟨⟨Nat.le_refl _,Nat.zero_le _,fun _ hi=>absurd hi (Nat.not_lt_zero _)⟩,⟨Nat.le_refl _,Nat.zero_le _,fun _ hi=>absurd hi (Nat.not_lt_zero _)⟩,fun _ hi=>absurd hi (Nat.not_lt_zero _),Nat.le_refl _,Nat.zero_le _⟩
theorem xNone_ok {a:Option Addr} {cap:Nat} {c:Nat→X}:XOk (.mk 16 val0 ⟨#[]⟩ ⟨#[]⟩ a 0 cap c):=⟨by decide,by decide,fun i hi=>absurd hi (Nat.not_lt_zero _)⟩
theorem qNil_ok:QOk qNil:=⟨trivial,xNone_ok,by decide,fun i hi=>absurd hi (Nat.not_lt_zero _)⟩
theorem qOne_ok:QOk qOne:=⟨⟨by decide,by decide,fun i hi=>absurd hi (Nat.not_lt_zero _)⟩,xNone_ok,by decide,fun i hi=>absurd hi (Nat.not_lt_zero _)⟩
theorem qNil_bad (Q:Nat→Sch):¬ WellR qNil 0 Q 0:=by
 rintro (⟨_,h⟩ | ⟨h,_⟩)
 · have h1:(0:Int) = chkQ qNil:=h 1 (by omega)
   have h2:clN qNil 0 = 0:=lexN_zero.1 h1.symm 0 (by omega)
   have h3:chkP .nil = 0:=h2
   have:chkP .nil = 1:=by kernel_rfl
   rw [this] at h3
   cases h3
 · exact h rfl
theorem one_uses:usesP qOne.p = [qOne.p]:=by rw [usesP_eq];rfl
theorem qOne_chk:chkQ qOne = 0:=by
 refine lexN_zero.2 fun i hi=>?_
 match i,hi with
 | 0,_=>show chkP qOne.p = 0;kernel_rfl
 | 1,_=>rfl
 | 2,_=>rfl
 | 3,_=>rfl
 | 4,_ =>
   show cl5 qOne = 0
   unfold cl5
   rw [if_neg]
   rintro ⟨i,hi,_⟩
   exact absurd hi (Nat.not_lt_zero _)
 | 5,_=>show argB (decide ((⟨#[]⟩:ByteArray) = ⟨#[]⟩) || nameB ⟨#[]⟩) = 0;simp [argB]
 | 6,_=>rfl
 | 7,_=>rfl
 | 8,_ =>
   show cl9 qOne = 0
   unfold cl9
   rw [if_pos]
   exact ⟨fun i hi=>absurd hi (Nat.not_lt_zero _),fun i hi=>absurd hi (Nat.not_lt_zero _)⟩
theorem qOne_made:MadeP qOne.p:=by
 refine ⟨by decide,?_,?_⟩
 · intro a ha b hb _
   rw [one_uses] at ha hb
   rw [List.mem_singleton] at ha hb
   subst ha hb
   exact ⟨rfl,Iff.rfl⟩
 · intro v hv
   rw [visP_eq,List.mem_cons] at hv
   rcases hv with rfl | hv
   · exact ⟨by kernel_rfl,.inr fun i j _ hj=>absurd hj (Nat.not_lt_zero _)⟩
   · obtain ⟨i,hi,_⟩:=mem_catN.1 hv
     exact absurd hi (Nat.not_lt_zero _)
theorem qOne_good (p:Nat):WellR qOne 3 (bookQ p) 0:=by
 refine .inl ⟨rfl,fun j hj=>?_⟩
 match j,hj with
 | 0,_=>show 0 = if bookZ 3 (bookQ p) = 0 then (0:Int) else 1;rw [if_pos (bookQ_ok p)]
 | 1,_=>exact qOne_chk.symm
 | 2,_=>exact .inr (.inl ⟨lexN_zero.1 qOne_chk 0 (by omega),qOne_made,rfl⟩)
 | 3,_=>exact ⟨.inr rfl,fun h=>absurd h (by decide),fun h=>absurd h.1.choose_spec.1 (by decide)⟩
 | 4,_ =>
   show 0 = newZ (fstL qOne.p).length (fstL qOne.p).length (fstT qOne.p) 3 (bookQ p)
   have hl:fstL qOne.p = [qOne.p]:=by show firstL (usesP qOne.p) = _;rw [one_uses];rfl
   unfold fstT
   rw [hl]
   rw [newZ,if_pos ⟨bookQ_ok p,rfl⟩]
   rw [if_neg]
   show ¬ (false || (idx (fun j=>(bookQ p j).nm) tBuy 3).isNone) = true
   rw [idx_at (fun j=>(bookQ p j).nm) tBuy 3 0 (by omega) rfl (fun j hj=>absurd hj (Nat.not_lt_zero _))]
   decide
 | 5,_=>exact .inl ⟨rfl,fun i hi=>absurd hi (Nat.not_lt_zero _)⟩
 | 6,_=>exact .inl ⟨rfl,rfl⟩
 | 7,_=>exact .inl ⟨rfl,fun i hi=>absurd hi (Nat.not_lt_zero _)⟩
theorem awake14_any (N T:Addr) (w:World) (hSe:Sens w N T) (hE:w.cell? ⟨0,0,none⟩ = some (rty 66)):Calls Tryz.prog 7 #[] w (RV (.bool true) w):=by
 have hS0:∀ d,Schs d none 0 (fun _=>⟨⟨#[]⟩,none,0,0,fun _=>⟨#[]⟩,fun _=>0⟩):=fun d=>⟨fun h=>absurd h (Nat.not_lt_zero _),fun j hj=>absurd hj (Nat.not_lt_zero _)⟩
 have C1:=checkW_any none 0 0 _ qNil N T w (hS0 w) (qNil_is w) qNil_ok (by decide) hSe hE
 have C2:Hid (∀ d,Below w.heap.size w d→Calls Tryz.prog 8 #[.slice (some ⟨d.heap.size + 2,0,none⟩) 3 3,qOne.val] (bookW d) (RV (.int .i64 0) w)):=fun d hd=>by
  have hB:Below d.heap.size d (bookW d):=(((Below.refl _ d).alloc (Nat.le_refl _) _).alloc (by simp) _).alloc (by simp;omega) _
  have hB':=hd.trans (hB.mono hd.size)
  refine (checkW_any _ 3 3 (bookQ d.heap.size) qOne N T (bookW d) (book14_schs d) (qOne_is _) qOne_ok (by decide) (hSe.later hB') (cell_later hE hB')).mono ?_
  rintro e w' ⟨z,rfl,hz,hB2⟩
  exact ⟨by rw [hz.one (qOne_good _)],hB'.trans (hB2.mono hB'.size)⟩
 clear hSe hE hS0
 go_enter Tryz.func7,Tryz.ntmps7
 go_wp2_with (first
  | (go_at_call 8;refine (C2.out w1 hB1).mono ?_;clear C2;rintro e w2 ⟨rfl,hB2⟩)
  | (go_at_call 8;refine C1.mono ?_;clear C1;rintro e w1 ⟨z,rfl,hz,hB1⟩;have hz0:(z != 0) = true:=by simp;rintro rfl;exact qNil_bad _ hz)
  | (go_at_call 21;refine (book14_any _).mono ?_;rintro e w' ⟨rfl,rfl⟩))
 go_ret
 exact ⟨rfl,hB2⟩
end Go.Proofs.YtkfpgkohkhhlhaaGreatDoor
