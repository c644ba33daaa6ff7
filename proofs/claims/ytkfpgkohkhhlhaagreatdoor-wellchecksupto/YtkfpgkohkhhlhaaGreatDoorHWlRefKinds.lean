/- Texts that the last one stands on. -/
import Derived.Test.YtkfpgkohkhhlhaaGreatDoorHWlCond
import Derived.Test.YtkfpgkohkhhlhaaGreatDoorHExprRefInto
set_option maxRecDepth 100000
set_option maxHeartbeats 8000000
namespace Go.Proofs.YtkfpgkohkhhlhaaGreatDoor
open Go.RowKit
theorem ofK_at {k:Int} {s:ByteArray} {l:List Pt}:memB (ofK k l) s=true ↔ ∃ (j:Nat) (y:Pt),l[j]? = some y∧y.k=k∧y.s=s:=by
 rw [memB_iff,mem_ofK]
 constructor
 · rintro ⟨y,hy,h⟩
   obtain ⟨j,hj,e⟩:=List.getElem_of_mem hy
   exact ⟨j,y,by rw [List.getElem?_eq_getElem hj,e],h⟩
 · rintro ⟨j,y,hj,h⟩
   exact ⟨y,List.mem_of_getElem? hj,h⟩
theorem refKinds_any (x:Pt) (k:Int) (s:ByteArray) (w:World) (hX:IsP w x) (hsm:x.size≤1048576):Calls Tryz.prog 85 #[x.val,.int .i64 k,.string s] w (RV (.bool (kindsB k x s)) w):=by
 obtain ⟨A,hA,hB,hs,hn⟩:=boxP_one x w
 obtain ⟨a0,a1,a2,a3,a4,a5⟩:=hn.at0
 have HB:=hid hB
 have CU:=refUses_any x A (hX.later hB) hsm
 obtain ⟨U,hU⟩:∃ U,U=usesP x:=⟨_,rfl⟩
 have hlu:U.length≤1048576:=by rw [hU];have:=length_uses x;omega
 have HR:Hid (kindsB k x s=memB (ofK k U) s):=by rw [hU];rfl
 unfold UsesAns at CU
 rw [← hU] at CU
 obtain ⟨r,hr⟩:∃ r,r=kindsB k x s:=⟨_,rfl⟩
 rw [← hr] at HR ⊢
 clear hB hn hX hs hsm hU hr
 go_enter Tryz.func85,Tryz.ntmps85
 go_wp2_with (go_at_call 82;refine CU.mono ?_;clear CU;rintro e w1 ⟨u,rfl,hu,hB1⟩;obtain ⟨au,cu,rfl,-,hcu,hcm,hus⟩:=own_uses hu;have HUS:=hid hus;clear hus hu)
 clear a0 a1 a2 a3 a4 a5 hA
 have HB1:Hid (Below w.heap.size w w1):=HB.out.trans (hB1.mono HB.out.size)
 clear hB1 HB
 go_loopw [8] (fun iv wr=>∃ i:Nat,i≤U.length∧iv=.int .i64 i∧Hid (∀ j y,j < i→U[j]? = some y→¬ (y.k=k∧y.s=s))∧wr=w1) (fun iv _=>U.length - (intOf iv).toNat)
 case atStart=>exact ⟨0,Nat.zero_le _,rfl,fun j _ hj=>absurd hj (Nat.not_lt_zero _),rfl⟩
 case round =>
  obtain ⟨i,hi,rfl,HN,rfl⟩:=hrel
  by_cases hin:i < U.length
  · obtain ⟨y,hy⟩:∃ y,U[i]? = some y:=⟨_,List.getElem?_eq_getElem hin⟩
    obtain ⟨g,eg,-,-,q0,-,q2⟩:=HUS.out i y hy
    have HIN:=hid hin
    have HY:=hid hy
    subst eg
    clear hy hi
    have nx:¬ (y.k=k∧y.s=s)→∀ j y,j < i+1→U[j]? = some y→¬ (y.k=k∧y.s=s):=fun h j z hj hz=>by
     by_cases e:j=i
     · rw [e,HY.out] at hz
       injection hz with hz
       rw [← hz];exact h
     · exact HN.out j z (by omega) hz
    have NX:=hid nx
    clear nx
    by_cases h1:y.k=k
    · have t1:(y.k == k)=true:=by simp [h1]
      by_cases h2:y.s=s
      · have t2:=str_yes h2
        have t2':=str_yes h2.symm
        have HH:Hid (y.k=k∧y.s=s):=⟨h1,h2⟩
        clear h1 h2
        go_wp2_with fail
        go_ret
        exact ⟨by rw [HR.out,ofK_at.2 ⟨i,y,HY.out,HH.out⟩];rfl,HB1.out⟩
      · have t2:=str_not h2
        have t2':=str_not (fun h=>h2 (Eq.symm h))
        have HH:Hid (¬ (y.k=k∧y.s=s)):=fun h=>h2 h.2
        clear h1 h2
        go_wp2_with fail
        go_roundw
        case rel=>exact ⟨i+1,HIN.out,by simp,NX.out HH.out,by first | rfl | trivial⟩
        case measure=>have:=HIN.out;simp [intOf];omega
    · have t1:(y.k == k)=false:=by simp [h1]
      have HH:Hid (¬ (y.k=k∧y.s=s)):=fun h=>h1 h.1
      clear h1
      go_wp2_with fail
      go_roundw
      case rel=>exact ⟨i+1,HIN.out,by simp,NX.out HH.out,by first | rfl | trivial⟩
      case measure=>have:=HIN.out;simp [intOf];omega
  · obtain rfl:i=U.length:=by omega
    go_wp2
    go_ret
    have hf:memB (ofK k U) s=false:=Bool.eq_false_iff.2 fun h=>by
     obtain ⟨j,y,hy,hh⟩:=ofK_at.1 h
     exact HN.out j y (List.getElem?_eq_some_iff.1 hy).1 hy hh
    exact ⟨by rw [HR.out,hf];rfl,HB1.out⟩
def fldT (ns:Nat) (Q:Nat→Sch) (t f:ByteArray):Option Int :=
 match idx (fun j=>(Q j).nm) t ns with
 | none=>none
 | some j=>match idx (Q j).fn f (Q j).l with
   | none=>none
   | some k=>some ((Q j).fk k)
def opk:Option Int→Int × Int
 | some k=>(k,0)
 | none=>(0,6)
theorem kindF_opk (L:ByteArray→ByteArray→Option Int) (v f:ByteArray):kindF L v f=opk (L v f):=by
 unfold kindF opk
 cases L v f <;> rfl
theorem look_fldT {nv:Nat} {V T:Nat→ByteArray} {ns:Nat} {Q:Nat→Sch} {v:ByteArray} {i:Nat} (f:ByteArray) (h:idx V v nv=some i):lookN nv V T ns Q v f=fldT ns Q (T i) f:=by
 unfold lookN fldT
 rw [h]
 rfl
def KeyT (F:Nat→Option Int) (i:Nat) (z:Int):Prop:=z=keyZ (opk (F i)) (opk (F 0)).1
theorem keyT_0 {F:Nat→Option Int} {i:Nat} {k:Int} (h:F i=some k) (h0:(opk (F 0)).1=k):KeyT F i 0:=by
 unfold KeyT keyZ
 rw [h,h0]
 show (0:Int)=if (0:Int)=0 then if k=k then 0 else 5 else 0
 rw [if_pos rfl,if_pos rfl]
theorem keyT_5 {F:Nat→Option Int} {i:Nat} {k:Int} (h:F i=some k) (h0:¬ (opk (F 0)).1=k):KeyT F i 5:=by
 unfold KeyT keyZ
 rw [h]
 show (5:Int)=if (0:Int)=0 then if k=(opk (F 0)).1 then 0 else 5 else 0
 rw [if_pos rfl,if_neg (fun e=>h0 e.symm)]
theorem empty_not {s:ByteArray} (h:¬ s=⟨#[]⟩):s.toList.isEmpty=false:=by
 have h9:=str_not h
 rw [show (⟨#[]⟩:ByteArray).toList=[] by rw [ByteArray.toList_eq]] at h9
 cases e:s.toList with
 | nil=>rw [e] at h9;cases h9
 | cons _ _=>rfl
section
variable (a:Option Addr) (ns cs:Nat) (Q:Nat→Sch) (at_:Option Addr) (n ct:Nat) (Ty:Nat→ByteArray) (name:ByteArray) (w:World)
theorem refKey_none:Calls Tryz.prog 32 #[.slice a ns cs,.slice at_ n ct,.string ⟨#[]⟩] w fun e w'=>e=.returned (.int .i64 0)∧w'=w:=by
 go_enter Tryz.func32,Tryz.ntmps32
 go_wp2
 refine wp_loop_rounds 1 ?_
 rw [rounds_succ]
 go_wp2
 all_goals go_ret
 all_goals exact ⟨rfl,rfl⟩
theorem refKey_any (hS:Schs w a ns Q) (hns:ns≤16) (hT:Txs w at_ n Ty) (hn:n≤1048576) (hl:∀ j,j < n→∃ i,idx (fun i=>(Q i).nm) (Ty j) ns=some i) (hne:¬ name=⟨#[]⟩) :
 Calls Tryz.prog 32 #[.slice a ns cs,.slice at_ n ct,.string name] w fun e w'=>∃ z,e=.returned (.int .i64 z)∧FstR (KeyT fun i=>fldT ns Q (Ty i) name) n z∧Below w.heap.size w w':=by
 have ts:=empty_not hne
 have HS:=hid hS
 have HT:=hid hT
 have HL:=hid hl
 have HNS:=hid hns
 obtain ⟨F,hF⟩:∃ F,F=fun i=>fldT ns Q (Ty i) name:=⟨_,rfl⟩
 rw [← hF]
 have HF:Hid (∀ i,F i=fldT ns Q (Ty i) name):=fun i=>by rw [hF]
 clear hS hT hl hne hns hF
 go_enter Tryz.func32,Tryz.ntmps32
 go_wp2
 go_loopw [7,8] (fun fv iv wr=>∃ (i:Nat) (f:Int),i≤n∧fv=.int .i64 f∧iv=.int .i64 i∧Hid ((∀ j,j < i→KeyT F j 0)∧(0 < i→f=(opk (F 0)).1))∧Below w.heap.size w wr) (fun _ iv _=>n - (intOf iv).toNat)
 case atStart=>exact ⟨0,0,Nat.zero_le _,rfl,rfl,⟨fun j hj=>absurd hj (Nat.not_lt_zero _),fun h=>absurd h (Nat.not_lt_zero _)⟩,Below.refl _ _⟩
 case round =>
  obtain ⟨i,f,hi,rfl,rfl,HI,hB⟩:=hrel
  by_cases hin:i < n
  · obtain ⟨b1,o1,rfl,hct⟩:=(HT.out.later hB) (by omega)
    have f1:=hct i hin
    obtain ⟨j,hj⟩:=HL.out i hin
    obtain ⟨j1,j2,j3⟩:=idx_some _ _ _ _ hj
    have CF:Hid (Calls Tryz.prog 83 #[.slice a ns cs,.string (Ty i)] wr _):=refFind_some a ns cs j (fun i=>(Q i).nm) (fun i=>(Q i).v) (Ty i) wr (HS.out.later hB).1 (by have:=HNS.out;omega) j1 j2 j3
    have CD:Hid (∀ d,Below w.heap.size w d→Calls Tryz.prog 86 #[schV (Q j).nm (Q j).v,.string name] d _):=fun d hd=>refField_at (Q j) name d ((HS.out.later hd).2 j j1).1 ((HS.out.later hd).2 j j1).2
    have hFi:=HF.out i
    unfold fldT at hFi
    simp only [hj] at hFi
    have HIN:=hid hin
    have HBR:=hid hB
    have nx:KeyT F i 0→∀ j,j < i+1→KeyT F j 0:=fun h q hq=>by
     by_cases e:q=i
     · rw [e];exact h
     · exact HI.out.1 q (by omega)
    have NX:=hid nx
    clear hct hj j2 j3 nx hi
    cases hx:idx (Q j).fn name (Q j).l with
    | none =>
      rw [hx] at CD hFi
      have HFi:=hid hFi
      clear hx hFi
      go_wp2_with (first
       | (go_at_call 83;refine CF.out.mono ?_;clear CF;rintro e w3 ⟨rfl,hB3⟩;have hB23:=bt HBR.out hB3;obtain ⟨b0,o0,rfl,hc0⟩:=(HS.out.later hB23).1 (by omega);have d1:=(hc0 j j1).1.1;have d2:=(hc0 j j1).1.2;clear hc0)
       | (go_at_call 86;refine (CD.out _ hB23).mono ?_;clear CD;rintro e w4 ⟨q,rfl,hB4⟩))
      go_ret
      exact ⟨6,rfl,.inr ⟨by decide,i,HIN.out,HI.out.1,by unfold KeyT;rw [HFi.out];rfl⟩,bt hB23 hB4⟩
    | some k =>
      rw [hx] at CD hFi
      obtain ⟨kd,hkd⟩:∃ kd,kd=(Q j).fk k:=⟨_,rfl⟩
      have CD:Hid (∀ d,Below w.heap.size w d→Calls Tryz.prog 86 #[schV (Q j).nm (Q j).v,.string name] d fun e w'=>∃ q:Int,e=.returned (.tuple #[.int .i64 q,.int .i64 kd,.bool true])∧Below d.heap.size d w'):=by rw [hkd];exact CD.out
      have HFi:Hid (F i=some kd):=by rw [hkd];exact hFi
      clear hx hFi hkd
      by_cases h0:i=0
      · have t0:((i:Int) == 0)=true:=by simp [h0]
        have HZ:Hid (KeyT F i 0):=keyT_0 HFi.out (by rw [← h0,HFi.out];rfl)
        have HF0:Hid (kd=(opk (F 0)).1):=by rw [← h0,HFi.out];rfl
        clear h0
        go_wp2_with (first
         | (go_at_call 83;refine CF.out.mono ?_;clear CF;rintro e w3 ⟨rfl,hB3⟩;have hB23:=bt HBR.out hB3;obtain ⟨b0,o0,rfl,hc0⟩:=(HS.out.later hB23).1 (by omega);have d1:=(hc0 j j1).1.1;have d2:=(hc0 j j1).1.2;clear hc0)
         | (go_at_call 86;refine (CD.out _ hB23).mono ?_;clear CD;rintro e w4 ⟨q,rfl,hB4⟩))
        go_roundw
        case rel=>exact ⟨i+1,kd,HIN.out,rfl,by simp,⟨NX.out HZ.out,fun _=>HF0.out⟩,bt hB23 hB4⟩
        case measure=>have:=HIN.out;simp [intOf];omega
      · have t0:((i:Int) == 0)=false:=by simp;omega
        have HF0:Hid (f=(opk (F 0)).1):=HI.out.2 (by omega)
        clear h0
        by_cases hk:kd=f
        · have tk:(kd != f)=false:=by simp [hk]
          have HZ:Hid (KeyT F i 0):=keyT_0 HFi.out (by rw [← HF0.out,hk])
          clear hk
          go_wp2_with (first
           | (go_at_call 83;refine CF.out.mono ?_;clear CF;rintro e w3 ⟨rfl,hB3⟩;have hB23:=bt HBR.out hB3;obtain ⟨b0,o0,rfl,hc0⟩:=(HS.out.later hB23).1 (by omega);have d1:=(hc0 j j1).1.1;have d2:=(hc0 j j1).1.2;clear hc0)
           | (go_at_call 86;refine (CD.out _ hB23).mono ?_;clear CD;rintro e w4 ⟨q,rfl,hB4⟩))
          go_roundw
          case rel=>exact ⟨i+1,f,HIN.out,rfl,by simp,⟨NX.out HZ.out,fun _=>HF0.out⟩,bt hB23 hB4⟩
          case measure=>have:=HIN.out;simp [intOf];omega
        · have tk:(kd != f)=true:=by simp [hk]
          have HZ:Hid (KeyT F i 5):=keyT_5 HFi.out (by rw [← HF0.out];exact fun h=>hk h.symm)
          clear hk
          go_wp2_with (first
           | (go_at_call 83;refine CF.out.mono ?_;clear CF;rintro e w3 ⟨rfl,hB3⟩;have hB23:=bt HBR.out hB3;obtain ⟨b0,o0,rfl,hc0⟩:=(HS.out.later hB23).1 (by omega);have d1:=(hc0 j j1).1.1;have d2:=(hc0 j j1).1.2;clear hc0)
           | (go_at_call 86;refine (CD.out _ hB23).mono ?_;clear CD;rintro e w4 ⟨q,rfl,hB4⟩))
          go_ret
          exact ⟨5,rfl,.inr ⟨by decide,i,HIN.out,HI.out.1,HZ.out⟩,bt hB23 hB4⟩
  · obtain rfl:i=n:=by omega
    go_wp2
    go_ret
    exact ⟨0,rfl,.inl ⟨rfl,HI.out.1⟩,hB⟩
end
theorem boxPI (x:Pt) (y:It) (w:World):∃ A,(w.alloc (.cells x.cells 25)).alloc (.cells y.cells 77)=A∧Below w.heap.size w A∧NodeP A w.heap.size 0 x∧A.heap[w.heap.size+1]? = some (.cells y.cells 77 (0,0)):=by
 refine ⟨_,rfl,(nwB w _).alloc (by simp) _,(nodeP_new w _ x).later (nwB _ _),alloc2_new w _ _⟩
def itemD (nv:Nat) (V T:Nat→ByteArray) (ns:Nat) (Q:Nat→Sch) (p:Pt) (x:It):Int :=
 match idx V x.s nv with
 | none=>6
 | some i=>if kindsB 6 p x.s=true then 6 else if x.k=3 then 0 else match fldT ns Q (T i) x.f with
   | none=>6
   | some k=>if x.k=4∧¬ k=2 then 5 else 0
theorem idx_mem {l:List ByteArray} {s:ByteArray}:(idx (atS l) s l.length).isSome=memB l s:=by
 rw [Bool.eq_iff_iff,memB_iff,mem_atS]
 cases e:idx (atS l) s l.length with
 | none =>
   refine ⟨fun h=>(by cases h),fun ⟨j,hj,h⟩=>absurd h (idx_none _ _ _ e j hj)⟩
 | some i =>
   obtain ⟨h1,h2,_⟩:=idx_some _ _ _ _ e
   exact ⟨fun _=>⟨i,h1,h2⟩,fun _=>rfl⟩
theorem item_same (p:Pt) (ns:Nat) (Q:Nat→Sch) (x:It):itemD (fstL p).length (fstV p) (fstT p) ns Q p x=itemZ (lookW p ns Q) p x:=by
 have hm:(idx (fstV p) x.s (fstL p).length).isSome=memB ((fstL p).map (·.s)) x.s:=by
  have:=idx_mem (l:=(fstL p).map (·.s)) (s:=x.s)
  rw [List.length_map] at this
  exact this
 unfold itemD itemZ
 rw [← hm,← kinds_of rfl p x.s,kindF_opk]
 cases e:idx (fstV p) x.s (fstL p).length with
 | none=>rfl
 | some i =>
   show _=if true=true then _ else _
   rw [if_pos rfl,show lookW p ns Q x.s x.f=fldT ns Q (fstT p i) x.f from look_fldT x.f e]
   simp only
   cases fldT ns Q (fstT p i) x.f with
   | none=>rfl
   | some k=>rfl
section
variable (pn:Nat) (a:Option Addr) (ns cs:Nat) (Q:Nat→Sch) (av:Option Addr) (nv cv:Nat) (V:Nat→ByteArray) (at_:Option Addr) (ct:Nat) (T:Nat→ByteArray) (p:Pt) (x:It) (w:World)
theorem refItem14_any (H:RefN w pn a ns cs Q av nv cv V at_ ct T) (hn:nv≤1048576) (hns:ns≤16) (hl:∀ j,j < nv→∃ i,idx (fun i=>(Q i).nm) (T j) ns=some i) (hP:IsP w p) (hps:p.size≤1048576) :
 Calls Tryz.prog 33 #[.slice a ns cs,.pointer (some ⟨pn,0,none⟩),p.val,x.val] w (RV (.int .i64 (itemD nv V T ns Q p x)) w):=by
 obtain ⟨A,hA,hBA,hnp,hxb⟩:=boxPI p x w
 have HRA:=H.later hBA
 have C1:=refType_any pn a ns cs Q av nv cv V at_ ct T x.s A HRA hn
 have CK:Hid (∀ d,Below A.heap.size A d→Calls Tryz.prog 85 #[p.val,.int .i64 6,.string x.s] d _):=fun d hd=>refKinds_any p 6 x.s d ((hP.later hBA).later hd) hps
 obtain ⟨i0,i1,i2,i3⟩:=item_cells hxb
 have HXB:=hid hxb
 have HXL:Hid (w.heap.size+1 < A.heap.size):=(Array.getElem?_eq_some_iff.1 hxb).1
 have HNP:=hid hnp
 have HBA:=hid hBA
 have HS:Hid (Schs A a ns Q):=HRA.sch
 obtain ⟨r,hr⟩:∃ r,r=itemD nv V T ns Q p x:=⟨_,rfl⟩
 have HR:=hid hr
 rw [← hr]
 unfold itemD at HR
 cases e:idx V x.s nv with
 | none =>
   rw [e] at C1 HR
   have HR6:Hid (r=6):=HR.out
   clear hr HR CK H HRA hn hl hP hps hnp hxb hBA e
   go_enter Tryz.func33,Tryz.ntmps33
   go_wp2_with (go_at_call 87;refine C1.mono ?_;clear C1;rintro e w1 ⟨rfl,hB1⟩)
   go_ret
   exact ⟨by rw [HR6.out];rfl,HBA.out.trans (hB1.mono HBA.out.size)⟩
 | some i =>
   rw [e] at C1 HR
   obtain ⟨hi,-,-⟩:=idx_some _ _ _ _ e
   obtain ⟨j,hj⟩:=hl i hi
   obtain ⟨j1,j2,j3⟩:=idx_some _ _ _ _ hj
   have CF:Hid (∀ d,Below A.heap.size A d→Calls Tryz.prog 83 #[.slice a ns cs,.string (T i)] d _):=fun d hd=>refFind_some a ns cs j (fun i=>(Q i).nm) (fun i=>(Q i).v) (T i) d (HS.out.later hd).1 (by omega) j1 j2 j3
   have CD:Hid (∀ d,Below A.heap.size A d→Calls Tryz.prog 86 #[schV (Q j).nm (Q j).v,.string x.f] d _):=fun d hd=>refField_at (Q j) x.f d ((HS.out.later hd).2 j j1).1 ((HS.out.later hd).2 j j1).2
   unfold fldT at HR
   simp only [hj] at HR
   clear hr H HRA hn hl hP hps hnp hxb hBA e hi hj j2 j3
   cases k6:kindsB 6 p x.s with
   | true =>
     rw [k6] at CK HR
     have HR6:Hid (r=6):=HR.out
     clear HR CF CD k6
     go_enter Tryz.func33,Tryz.ntmps33
     go_wp2_with (first
      | (go_at_call 87;refine C1.mono ?_;clear C1;rintro e w1 ⟨rfl,hB1⟩;obtain ⟨a0,a1,a2,a3,a4,a5⟩:=(HNP.out.later hB1).at0;obtain ⟨m0,m1,m2,m3⟩:=item_cells ((hB1.block _ HXL.out).trans HXB.out))
      | (go_at_call 85;refine (CK.out w1 hB1).mono ?_;clear CK;rintro e w2 ⟨rfl,hB2⟩))
     go_ret
     exact ⟨by rw [HR6.out];rfl,HBA.out.trans ((hB1.trans (hB2.mono hB1.size)).mono HBA.out.size)⟩
   | false =>
     rw [k6] at CK HR
     rw [if_neg (by decide)] at HR
     clear k6
     by_cases h3:x.k=3
     · rw [if_pos h3] at HR
       have t3:(x.k == 3)=true:=by simp [h3]
       clear CF CD h3
       go_enter Tryz.func33,Tryz.ntmps33
       go_wp2_with (first
        | (go_at_call 87;refine C1.mono ?_;clear C1;rintro e w1 ⟨rfl,hB1⟩;obtain ⟨a0,a1,a2,a3,a4,a5⟩:=(HNP.out.later hB1).at0;obtain ⟨m0,m1,m2,m3⟩:=item_cells ((hB1.block _ HXL.out).trans HXB.out))
        | (go_at_call 85;refine (CK.out w1 hB1).mono ?_;clear CK;rintro e w2 ⟨rfl,hB2⟩;have hA2:=hB1.trans (hB2.mono hB1.size);obtain ⟨n0,n1,n2,n3⟩:=item_cells ((hA2.block _ HXL.out).trans HXB.out)))
       go_ret
       exact ⟨by rw [HR.out];rfl,HBA.out.trans (hA2.mono HBA.out.size)⟩
     · rw [if_neg h3] at HR
       have t3:(x.k == 3)=false:=by simp [h3]
       clear h3
       cases hx:idx (Q j).fn x.f (Q j).l with
       | none =>
         rw [hx] at CD HR
         have HR6:Hid (r=6):=HR.out
         clear hx HR
         go_enter Tryz.func33,Tryz.ntmps33
         go_wp2_with (first
          | (go_at_call 87;refine C1.mono ?_;clear C1;rintro e w1 ⟨rfl,hB1⟩;obtain ⟨a0,a1,a2,a3,a4,a5⟩:=(HNP.out.later hB1).at0;obtain ⟨m0,m1,m2,m3⟩:=item_cells ((hB1.block _ HXL.out).trans HXB.out))
          | (go_at_call 85;refine (CK.out w1 hB1).mono ?_;clear CK;rintro e w2 ⟨rfl,hB2⟩;have hA2:=hB1.trans (hB2.mono hB1.size);obtain ⟨n0,n1,n2,n3⟩:=item_cells ((hA2.block _ HXL.out).trans HXB.out))
          | (go_at_call 83;refine (CF.out w2 hA2).mono ?_;clear CF;rintro e w3 ⟨rfl,hB3⟩;have hA3:=hA2.trans (hB3.mono hA2.size);obtain ⟨q0,q1,q2,q3⟩:=item_cells ((hA3.block _ HXL.out).trans HXB.out);obtain ⟨b0,o0,rfl,hc0⟩:=(HS.out.later hA3).1 (by omega);have d1:=(hc0 j j1).1.1;have d2:=(hc0 j j1).1.2;clear hc0))
         go_region_with (go_at_call 86;refine (CD.out _ hA3.drew).mono ?_;rintro e w4 ⟨z4,rfl,hB4⟩)
         all_goals have hA4:Below A.heap.size A w4:=hA3.drew.trans (hB4.mono hA3.drew.size)
         all_goals go_wp2
         all_goals go_ret
         all_goals exact ⟨by rw [HR6.out];rfl,HBA.out.trans (hA4.mono HBA.out.size)⟩
       | some k =>
         rw [hx] at CD HR
         obtain ⟨kd,hkd⟩:∃ kd,kd=(Q j).fk k:=⟨_,rfl⟩
         have CD:Hid (∀ d,Below A.heap.size A d→Calls Tryz.prog 86 #[schV (Q j).nm (Q j).v,.string x.f] d fun e w'=>∃ q:Int,e=.returned (.tuple #[.int .i64 q,.int .i64 kd,.bool true])∧Below d.heap.size d w'):=by rw [hkd];exact CD.out
         have HR:Hid (r=if x.k=4∧¬ kd=2 then 5 else 0):=by rw [hkd];exact HR.out
         clear hx hkd
         have hor:((x.k == 4)=true∧(kd != 2)=true∧r=5) ∨ ((x.k == 4)=true∧(kd != 2)=false∧r=0) ∨ ((x.k == 4)=false∧r=0):=by
          by_cases h4:x.k=4
          · by_cases h2:kd=2
            · exact .inr (.inl ⟨by simp [h4],by simp [h2],by rw [HR.out,if_neg (fun q=>q.2 h2)]⟩)
            · exact .inl ⟨by simp [h4],by simp [h2],by rw [HR.out,if_pos ⟨h4,h2⟩]⟩
          · exact .inr (.inr ⟨by simp [h4],by rw [HR.out,if_neg (fun q=>h4 q.1)]⟩)
         clear HR
         rcases hor with ⟨t4,t2,hr⟩ | ⟨t4,t2,hr⟩ | ⟨t4,hr⟩
         all_goals have HR:=hid hr
         all_goals clear hr
         all_goals go_enter Tryz.func33,Tryz.ntmps33
         all_goals go_wp2_with (first
          | (go_at_call 87;refine C1.mono ?_;clear C1;rintro e w1 ⟨rfl,hB1⟩;obtain ⟨a0,a1,a2,a3,a4,a5⟩:=(HNP.out.later hB1).at0;obtain ⟨m0,m1,m2,m3⟩:=item_cells ((hB1.block _ HXL.out).trans HXB.out))
          | (go_at_call 85;refine (CK.out w1 hB1).mono ?_;clear CK;rintro e w2 ⟨rfl,hB2⟩;have hA2:=hB1.trans (hB2.mono hB1.size);obtain ⟨n0,n1,n2,n3⟩:=item_cells ((hA2.block _ HXL.out).trans HXB.out))
          | (go_at_call 83;refine (CF.out w2 hA2).mono ?_;clear CF;rintro e w3 ⟨rfl,hB3⟩;have hA3:=hA2.trans (hB3.mono hA2.size);obtain ⟨q0,q1,q2,q3⟩:=item_cells ((hA3.block _ HXL.out).trans HXB.out);obtain ⟨b0,o0,rfl,hc0⟩:=(HS.out.later hA3).1 (by omega);have d1:=(hc0 j j1).1.1;have d2:=(hc0 j j1).1.2;clear hc0))
         all_goals go_region_with (go_at_call 86;refine (CD.out _ hA3.drew).mono ?_;rintro e w4 ⟨z4,rfl,hB4⟩)
         all_goals have hA4:Below A.heap.size A w4:=hA3.drew.trans (hB4.mono hA3.drew.size)
         all_goals obtain ⟨p0,p1,p2,p3⟩:=item_cells ((hA4.block _ HXL.out).trans HXB.out)
         all_goals go_wp2
         all_goals go_ret
         all_goals exact ⟨by rw [HR.out];rfl,HBA.out.trans (hA4.mono HBA.out.size)⟩
end
def nmU (l:List Pt):List ByteArray:=(l.filter fun y=>!decide (y.k=6)).map (·.s)
theorem nmU_app (l m:List Pt):nmU (l ++ m)=nmU l ++ nmU m:=by simp [nmU]
theorem nmW_app (l m:List Pt):nmW (l ++ m)=nmW l ++ nmW m:=by simp [nmW]
theorem nmU_len (l:List Pt):(nmU l).length≤l.length:=by rw [nmU,List.length_map];exact List.length_filter_le _ _
theorem nmU_cat (f:Nat→List Pt):∀ n,nmU (catN f n)=catN (fun i=>nmU (f i)) n
 | 0=>rfl
 | n+1=>by simp only [catN];rw [nmU_app,nmU_cat f n]
theorem nmW_cat (f:Nat→List Pt):∀ n,nmW (catN f n)=catN (fun i=>nmW (f i)) n
 | 0=>rfl
 | n+1=>by simp only [catN];rw [nmW_app,nmW_cat f n]
theorem nmW_uses:∀ x:Pt,nmW (ndP x)=nmU (usesP x):=by
 refine Pt.ind fun x ih=>?_
 rw [ndP_eq,usesP_eq,nmU_app,nmU_cat,show x :: catN (fun i=>ndP (x.c i)) x.n=[x] ++ catN (fun i=>ndP (x.c i)) x.n from rfl,nmW_app,nmW_cat,catN_congr ih]
 congr 1
 by_cases h1:x.k=1
 · simp [nmW,nmU,isAM,nmd,h1]
 · by_cases h5:x.k=5
   · simp [nmW,nmU,isAM,nmd,h5]
   · by_cases h6:x.k=6
     · simp [nmW,nmU,isAM,nmd,h6]
     · simp [nmW,nmU,isAM,nmd,h1,h5,h6]
def rowN (f:Pt):List ByteArray:=intoAll [] (nmW (ndF f))
theorem rowN_pre (x:Pt) (i:Nat):rowN (preF x i)=intoAll [] (nmU (catN (fun q=>usesP (x.c q)) i)):=by
 unfold rowN
 congr 1
 show nmW (catN (fun q=>ndP (x.c q)) i)=_
 rw [nmW_cat,nmU_cat,catN_congr fun q _=>nmW_uses (x.c q)]
def ahL (s:ByteArray) (x:Pt):List (List ByteArray):=(frA s x).map rowN
def ahP (s:ByteArray) (x:Pt) (i:Nat):List (List ByteArray):=(if hitF s x i then [rowN (preF x i)] else []) ++ ahL s (x.c i)
theorem ahL_eq (s:ByteArray) (x:Pt):ahL s x=catN (ahP s x) x.n:=by
 unfold ahL
 rw [frA_eq,catN_map]
 refine catN_congr fun i _=>?_
 unfold ahP ahL
 rw [List.map_append]
 congr 1
 split <;> rfl
theorem ahL_len (s:ByteArray):∀ x:Pt,(ahL s x).length < x.size:=by
 refine Pt.ind fun x ih=>?_
 have key:∀ n,n≤x.n→(catN (ahP s x) n).length≤sumN (fun i=>(x.c i).size) n:=by
  intro n
  induction n with
  | zero=>intro _;exact Nat.le_refl _
  | succ n ihn =>
    intro hn
    have h1:=ihn (by omega)
    have h2:=ih n (by omega)
    have h3:(ahP s x n).length≤1+(ahL s (x.c n)).length:=by
     unfold ahP
     rw [List.length_append]
     split <;> simp
    simp only [catN,sumN,List.length_append]
    omega
 have h1:=key x.n (Nat.le_refl _)
 rw [ahL_eq,x.size_eq]
 omega
theorem intoAll_two:∀ (m k l:List ByteArray),intoAll l (m ++ k)=intoAll (intoAll l m) k
 | [],_,_=>rfl
 | s :: m,k,l=>by simp only [List.cons_append,intoAll];rw [intoAll_two m k]
theorem intoL_le (s:ByteArray):∀ l:List ByteArray,(intoL s l).length≤l.length+1
 | []=>by simp [intoL]
 | a :: l=>by
   simp only [intoL]
   split
   · simp
   · split
     · simp
     · have:=intoL_le s l;simp;omega
theorem intoAll_le:∀ (m l:List ByteArray),(intoAll l m).length≤l.length+m.length
 | [],_=>by simp [intoAll]
 | s :: m,l=>by
   have h1:=intoAll_le m (intoL s l)
   have h2:=intoL_le s l
   simp only [intoAll,List.length_cons]
   omega
theorem rowN_len (f:Pt) (m:Nat) (h:(ndF f).length≤m):(rowN f).length≤m:=by
 have h1:=intoAll_le (nmW (ndF f)) []
 have h2:(nmW (ndF f)).length≤(ndF f).length:=by rw [nmW,List.length_map];exact List.length_filter_le _ _
 simp only [List.length_nil] at h1
 unfold rowN
 omega
theorem ndP_len:∀ x:Pt,(ndP x).length≤x.size:=by
 refine Pt.ind fun x ih=>?_
 have key:∀ n,n≤x.n→(catN (fun i=>ndP (x.c i)) n).length≤sumN (fun i=>(x.c i).size) n:=by
  intro n
  induction n with
  | zero=>intro _;exact Nat.le_refl _
  | succ n ihn =>
    intro hn
    have h1:=ihn (by omega)
    have h2:=ih n (by omega)
    simp only [catN,sumN,List.length_append]
    omega
 have:=key x.n (Nat.le_refl _)
 rw [ndP_eq,x.size_eq,List.length_cons]
 omega
theorem frA_nd (s:ByteArray):∀ (x y:Pt),y ∈ frA s x→(ndF y).length≤x.size:=by
 refine Pt.ind fun x ih y h=>?_
 have key:∀ n,n≤x.n→(catN (fun i=>ndP (x.c i)) n).length≤sumN (fun i=>(x.c i).size) n:=by
  intro n
  induction n with
  | zero=>intro _;exact Nat.le_refl _
  | succ n ihn =>
    intro hn
    have h1:=ihn (by omega)
    have h2:=ndP_len (x.c n)
    simp only [catN,sumN,List.length_append]
    omega
 obtain ⟨i,hi,h | h⟩:=mem_frA.1 h
 · rw [h.2]
   have h1:=key i (by omega)
   have h2:sumN (fun i=>(x.c i).size) i≤sumN (fun i=>(x.c i).size) x.n:=sumN_upto (by omega)
   have h3:=x.size_eq
   show (catN (fun q=>ndP (x.c q)) i).length≤_
   omega
 · have h1:=ih i hi y h
   have h2:=x.size_part i hi
   omega
theorem ahL_part (s:ByteArray) (x:Pt):∀ l ∈ ahL s x,l.length≤x.size:=by
 intro l hl
 obtain ⟨f,hf,rfl⟩:=List.mem_map.1 hl
 exact rowN_len f x.size (frA_nd s x f hf)
theorem aheadL_of (s:ByteArray) (x:Pt):aheadL s x=match ahL s x with | []=>[] | l :: r=>l.filter fun t=>r.all fun g=>memB g t:=by
 unfold aheadL ahL
 cases frA s x with
 | nil=>rfl
 | cons f r =>
   simp only [List.map_cons]
   show (rowN f).filter _=(rowN f).filter _
   congr 1
   funext t
   rw [List.all_map]
   congr 1
   funext g
   rw [Bool.eq_iff_iff]
   show memB (nmW (ndF g)) t=true ↔ memB (rowN g) t=true
   rw [memB_iff,memB_iff,rowN,mem_intoAll]
   simp
def Ls (w:World) (vs:List Value) (L:List (List ByteArray)):Prop:=∀ (j:Nat) (l:List ByteArray),L[j]? = some l→∃ u,vs[j]? = some u∧w.ownsRow 0 9 1 u l.length (cellsS l)
def RR (base:Nat) (w:World) (v:Value) (L:List (List ByteArray)):Prop:=∃ vs,w.ownsRow base 37 1 v L.length vs∧Ls w vs L
theorem RR.nil (base:Nat) (w:World):RR base w (.slice none 0 0) []:=⟨[],World.ownsRow_nil _ _ _ _,fun j l h=>by simp at h⟩
theorem RR.later {base:Nat} {w w':World} {v:Value} {L:List (List ByteArray)} (h:RR base w v L) (hB:Below w.heap.size w w'):RR base w' v L:=by
 obtain ⟨vs,h1,h2⟩:=h
 refine ⟨vs,own_laterS h1 hB,fun j l hj=>?_⟩
 obtain ⟨u,h3,h4⟩:=h2 j l hj
 exact ⟨u,h3,own_laterS h4 hB⟩
theorem RR.low {base base':Nat} {w:World} {v:Value} {L:List (List ByteArray)} (h:RR base w v L) (hb:base'≤base):RR base' w v L:=by
 obtain ⟨vs,h1,h2⟩:=h
 exact ⟨vs,own_low3 h1 hb,h2⟩
theorem RR.slice {base:Nat} {w:World} {v:Value} {L:List (List ByteArray)} (h:RR base w v L):∃ a cap,v=.slice a L.length cap:=by
 obtain ⟨vs,h1,_⟩:=h
 rcases h1.2 with ⟨rfl,e⟩ | ⟨g,cap,cur,rfl,_⟩
 · exact ⟨none,0,by rw [e]⟩
 · exact ⟨_,cap,rfl⟩
theorem RR.own {base:Nat} {w:World} {v:Value} {L:List (List ByteArray)} (h:RR base w v L):∀ g,v.ownBlock=some g→base≤g∧g < w.heap.size:=by
 obtain ⟨vs,h1,_⟩:=h
 exact fun g hg=>h1.lt g hg
theorem RR.below {A:Nat} {W0 w w':World} {v:Value} {L:List (List ByteArray)} (h:RR A w v L) (hB:Below A W0 w) (hA:A≤w.heap.size) (hg:w.grownBy w' v.ownBlock):Below A W0 w':=hB.grown hg hA (fun g e=>(h.own g e).1)
theorem RR.one {w:World} {u:Value} {l:List ByteArray} (h:w.ownsRow 0 9 1 u l.length (cellsS l)):RR w.heap.size (w.alloc (.cells #[u] 37)) (.slice (some ⟨w.heap.size,0,none⟩) 1 1) [l]:=by
 refine ⟨[u],⟨rfl,.inr ⟨w.heap.size,1,#[u],rfl,Nat.le_refl _,alloc_new w _,Nat.le_refl _,by unfold maxLen;omega,rfl,rfl⟩⟩,fun j l' hj=>?_⟩
 match j with
 | 0=>simp at hj;subst hj;exact ⟨u,rfl,own_laterS h (nwB _ _)⟩
 | j+1=>simp at hj
theorem infoTS:(Tryz.prog.info? 37).map (fun i=>(i.zero,i.size,i.bytes))=some (some (.slice none 0 0),1,24):=by kernel_rfl
theorem row_slices {base:Nat} {w:World} {v:Value} {L:List (List ByteArray)} {vs:List Value} (h1:w.ownsRow base 37 1 v L.length vs) (h2:Ls w vs L):∀ u ∈ vs,u.oneCell'=true:=by
 intro u hu
 obtain ⟨j,hj,rfl⟩:=List.getElem_of_mem hu
 have hl:vs.length=L.length:=by have:=h1.1;omega
 obtain ⟨u',e,ho⟩:=h2 j L[j] (List.getElem?_eq_getElem (by omega))
 rw [List.getElem?_eq_getElem hj] at e
 injection e with e
 rw [e]
 rcases ho.2 with ⟨rfl,_⟩ | ⟨g,cap,cur,rfl,_⟩ <;> rfl
theorem RR.app {base base2:Nat} {w:World} {v u:Value} {L M:List (List ByteArray)} (h:RR base w v L) (hb:base≤w.heap.size) (h2:RR base2 w u M) (hn:L.length+M.length≤16777216) :
 ∃ v' w',(Builtin.append_ #[91,91] 91 #[v,u]).run Tryz.prog w=.ok v' w'∧RR base w' v' (L ++ M)∧w.grownBy w' v.ownBlock:=by
 obtain ⟨vs,o1,s1⟩:=h
 obtain ⟨us,o2,s2⟩:=h2
 obtain ⟨i0,hi,hz0,hz1,hz2⟩:=info_parts infoTS
 have hl1:vs.length=L.length:=by have:=o1.1;omega
 have hl2:us.length=M.length:=by have:=o2.1;omega
 have hs12:Ls w (vs ++ us) (L ++ M):=fun j l hj=>by
  by_cases e:j < L.length
  · rw [List.getElem?_append_left e] at hj
    obtain ⟨u,h3,h4⟩:=s1 j l hj
    exact ⟨u,by rw [List.getElem?_append_left (by omega)];exact h3,h4⟩
  · rw [List.getElem?_append_right (by omega)] at hj
    obtain ⟨u,h3,h4⟩:=s2 _ l hj
    exact ⟨u,by rw [List.getElem?_append_right (by omega),hl1];exact h3,h4⟩
 rcases o2.2 with ⟨rfl,e0⟩ | ⟨g,cap,cur,rfl,hg,hc,hnc,hcm,hs,ht⟩
 · have em:M=[]:=List.eq_nil_of_length_eq_zero e0
   subst em
   have eu:us=[]:=List.eq_nil_of_length_eq_zero (by simpa using hl2)
   subst eu
   obtain ⟨a,cap,rfl⟩:=RR.slice ⟨vs,o1,s1⟩
   have ht:Tryz.prog.underlying 91=some (.slice 37):=Tryz.underlying91
   have hle:L.length≤cap:=by
    rcases o1.2 with ⟨e1,e2⟩ | ⟨g,cap',cur,e1,_,_,h3,_⟩
    · have:=(Value.slice.inj e1).2.1;omega
    · have:=Value.slice.inj e1;omega
   refine ⟨.slice a L.length cap,w,?_,by simpa using ⟨vs,o1,s1⟩,⟨rfl,rfl,rfl,Nat.le_refl _,fun _ _ _=>rfl⟩⟩
   cases a <;> simp [Builtin.append_,run_underlying ht,sizeOf,typeInfo,hi,Builtin.lenOf,Builtin.firstCells,hle,storeCells]
 · obtain ⟨v',w',hrun,hown',hgrow,_⟩:=run_append_own (P:=Tryz.prog) (w:=w) base 91 91 37 i0 (.slice none 0 0) 1 24 Tryz.underlying91 hi hz0 hz1 hz2 rfl (by decide) v _ _ o1 ⟨g,0,none⟩ M.length cap us (by omega)
    (fun j u hu=>by
      have hj:j < M.length:=by have:=(List.getElem?_eq_some_iff.1 hu).1;omega
      rw [← ht,List.getElem?_take_of_lt (by omega)] at hu
      rw [add_none,Nat.zero_add]
      simp only [World.cell?,hc]
      rw [Array.getElem?_toList] at hu
      exact hu) (row_slices o2 s2) (by unfold maxLen;omega) (by omega) hb
   refine ⟨v',w',hrun,⟨vs ++ us,by rw [List.length_append];exact hown',fun j l hj=>?_⟩,hgrow⟩
   obtain ⟨u,h3,h4⟩:=hs12 j l hj
   rcases h4.2 with ⟨rfl,e0⟩ | ⟨g4,cap4,cur4,e4,_,hc4,_⟩
   · have el:l=[]:=List.eq_nil_of_length_eq_zero e0
     subst el
     exact ⟨_,h3,World.ownsRow_nil _ _ _ _⟩
   · refine ⟨u,h3,h4.kept hgrow (.inr fun e=>?_)⟩
     subst e4
     rcases o1.2 with ⟨rfl,_⟩ | ⟨g1,cap1,cur1,rfl,_,hc1,_⟩
     · simp [Value.ownBlock] at e
     · simp [Value.ownBlock] at e
       subst e
       rw [hc1] at hc4
       injection hc4 with h5
       injection h5 with _ h6
       exact absurd h6 (by decide)
theorem nmU_take (U:List Pt) (m:Nat) (h:m < U.length):nmU (U.take (m+1))=nmU (U.take m) ++ (if U[m].k=6 then [] else [U[m].s]):=by
 rw [List.take_succ_eq_append_getElem h,nmU_app]
 congr 1
 by_cases h6:U[m].k=6
 · simp [nmU,h6]
 · simp [nmU,h6]
def Gth (x:Pt) (k m:Nat):List ByteArray:=intoAll [] (nmU (catN (fun q=>usesP (x.c q)) k ++ (usesP (x.c k)).take m))
theorem Gth_next (x:Pt) (k:Nat):Gth x k (usesP (x.c k)).length=Gth x (k+1) 0:=by
 unfold Gth
 rw [List.take_length,List.take_zero,List.append_nil]
 rfl
theorem Gth_step (x:Pt) (k m:Nat) (h:m < (usesP (x.c k)).length):Gth x k (m+1)=if ((usesP (x.c k))[m]).k=6 then Gth x k m else intoL ((usesP (x.c k))[m]).s (Gth x k m):=by
 unfold Gth
 rw [nmU_app,nmU_app,nmU_take _ _ h]
 split
 · rw [List.append_nil]
 · rw [← List.append_assoc,intoAll_two]
   rfl
theorem Gth_end (x:Pt) (i:Nat):Gth x i 0=rowN (preF x i):=by
 rw [rowN_pre]
 unfold Gth
 rw [List.take_zero,List.append_nil]
theorem Gth_len (x:Pt) (k m:Nat) (hk:k < x.n):(Gth x k m).length≤x.size:=by
 have h1:=intoAll_le (nmU (catN (fun q=>usesP (x.c q)) k ++ (usesP (x.c k)).take m)) []
 have h2:=nmU_len (catN (fun q=>usesP (x.c q)) k ++ (usesP (x.c k)).take m)
 have h3:=length_catU x (k+1) (by omega)
 rw [catN,List.length_append] at h3
 have h4:sumN (fun i=>(x.c i).size) (k+1)≤sumN (fun i=>(x.c i).size) x.n:=sumN_upto (by omega)
 have h5:=x.size_eq
 have h6:((usesP (x.c k)).take m).length≤(usesP (x.c k)).length:=by rw [List.length_take];omega
 rw [List.length_append] at h2
 simp only [List.length_nil] at h1
 unfold Gth
 omega
def AhAns (s:ByteArray) (x:Pt) (w:World) (e:Ending) (w':World):Prop:=∃ v,e=.returned v∧RR w.heap.size w' v (ahL s x)∧Below w.heap.size w w'
theorem ahP_cat (s:ByteArray) (x:Pt) (k:Nat) (hk:k≤x.n):(catN (ahP s x) k).length≤x.size:=by
 have h0:∀ n,n≤x.n→(catN (ahP s x) n).length≤sumN (fun i=>(x.c i).size) n:=by
  intro n
  induction n with
  | zero=>intro _;exact Nat.le_refl _
  | succ n ihn =>
    intro hn
    have h1:=ihn (by omega)
    have h2:=ahL_len s (x.c n)
    have h3:(ahP s x n).length≤1+(ahL s (x.c n)).length:=by
     unfold ahP
     rw [List.length_append]
     split <;> simp
    simp only [catN,sumN,List.length_append]
    omega
 have h1:=h0 k hk
 have h2:sumN (fun i=>(x.c i).size) k≤sumN (fun i=>(x.c i).size) x.n:=sumN_upto hk
 rw [x.size_eq]
 omega
theorem aheads_any (s:ByteArray):∀ (x:Pt) (w:World),IsP w x→x.size≤1048576→Calls Tryz.prog 40 #[x.val,.string s] w (AhAns s x w):=by
 refine Pt.ind fun x ih w hX hsm=>?_
 obtain ⟨A,hA,hB,hs,hn⟩:=boxP_one x w
 obtain ⟨a0,a1,a2,a3,a4,a5⟩:=hn.at0
 have HB:=hid hB
 have HN:=hid hn
 have HX:=hid hX
 have HSM:=hid hsm
 have hlen:=hX.len
 have HI:Hid (∀ i,i < x.n→∀ W,Below w.heap.size w W→Calls Tryz.prog 40 #[(x.c i).val,.string s] W (AhAns s (x.c i) W)):=fun i hi W hW=>by
  obtain ⟨_,_,_,_,h1⟩:=(hX.later hW).part hi
  exact ih i hi W h1 (by have:=x.size_part i hi;omega)
 have HU:Hid (∀ i,i < x.n→∀ W,Below w.heap.size w W→Calls Tryz.prog 82 #[(x.c i).val] W (UsesAns (x.c i) W)):=fun i hi W hW=>by
  obtain ⟨_,_,_,_,h1⟩:=(hX.later hW).part hi
  exact refUses_any (x.c i) W h1 (by have:=x.size_part i hi;omega)
 clear hB hn hX ih hs hsm
 go_enter Tryz.func40,Tryz.ntmps40
 go_wp2_with fail
 clear a0 a1 a2 a3 a4 a5 hA
 go_loopw [5,6] (fun ov iv wr=>∃ (i:Nat) (v:Value),i≤x.n∧v=ov∧iv=.int .i64 i∧Hid (RR A.heap.size wr v (catN (ahP s x) i))∧Below A.heap.size A wr) (fun _ iv _=>x.n - (intOf iv).toNat)
 case atStart=>exact ⟨0,_,Nat.zero_le _,rfl,rfl,RR.nil _ _,Below.refl _ _⟩
 case round =>
  obtain ⟨i,v,hi,rfl,rfl,HR,hBr⟩:=hrel
  have hw:=HB.out.trans (hBr.mono HB.out.size)
  obtain ⟨c0,c1,c2,c3,c4,c5⟩:=(HN.out.later hBr).at0
  by_cases hin:i < x.n
  · obtain ⟨b,o,ea,hn,-⟩:=(HX.out.later hw).part hin
    rw [ea] at c5
    obtain ⟨d0,d1,d2,d3,d4,d5⟩:=hn
    obtain ⟨C,V,hC,hCb,hCV,hCB,hCn,hCs⟩:=boxP_put (x.c i) wr
    obtain ⟨⟨g0,g1,g2,g3,g4,g5⟩,f0,f1,f2,f3,f4,f5⟩:=zero_cells hCb
    have HIN:=hid hin
    have HOB:Hid (∀ g,v.ownBlock=some g→g < wr.heap.size):=fun g e=>(HR.out.own g e).2
    have HBR:=hid hBr
    have HNV:=hid hCn
    have HAV:Hid (Below A.heap.size A V):=hBr.trans (hCB.mono hBr.size)
    have HRV:Hid (RR A.heap.size V v (catN (ahP s x) i)):=HR.out.later hCB
    obtain ⟨e0,e1,e2,e3,e4,e5⟩:=hCn.at0
    obtain ⟨k0,-,-,-,-,k5⟩:=(HN.out.later (hBr.trans (hCB.mono hBr.size))).at0
    have HEA:=hid ea
    clear ea HR hi hw hCn hCs hCb hCB hBr
    by_cases hit:hitF s x i=true
    · obtain ⟨t1,t2,t3⟩:x.k=2∧(x.c i).k=6∧(x.c i).s=s:=by simpa [hitF,and_assoc] using hit
      have q1:(x.k == 2)=true:=by simp [t1]
      have q2:((x.c i).k == 6)=true:=by simp [t2]
      have q3:=str_yes t3
      have q3':=str_yes t3.symm
      have HIT:=hid hit
      clear t1 t2 t3 hit
      have HBV:Hid (Below w.heap.size w V):=HB.out.trans (HAV.out.mono HB.out.size)
      go_wp2_with fail
      obtain ⟨BX,hBX⟩:∃ BX,wr.heap.size=BX:=⟨_,rfl⟩
      rw [hBX] at HNV HOB ⊢
      clear hBX hin e0 e1 e2 e3 e4 e5 k0 k5 c0 c1 c2 c3 c4 c5 d0 d1 d2 d3 d4 d5 g0 g1 g2 g3 g4 g5 f0 f1 f2 f3 f4 f5 hC hCV q1 q2 q3 q3'
      obtain ⟨av,cv,rfl⟩:=HRV.out.slice
      go_loopw [8,9] (fun lv kv w2=>∃ (k:Nat) (l:Value),k≤i∧l=lv∧kv=.int .i64 k∧Hid (w2.ownsRow V.heap.size 9 1 l (Gth x k 0).length (cellsS (Gth x k 0)))∧Below V.heap.size V w2) (fun _ kv _=>i - (intOf kv).toNat)
      case atStart=>exact ⟨0,_,Nat.zero_le _,rfl,rfl,World.ownsRow_nil _ _ _ _,Below.refl _ _⟩
      case round =>
       obtain ⟨k,l,hki,rfl,rfl,HO,hB2⟩:=hrel
       obtain ⟨k0,-,-,-,-,k5⟩:=(HN.out.later (HAV.out.trans (hB2.mono HAV.out.size))).at0
       by_cases hk:k < i
       · have hw2:=HBV.out.trans (hB2.mono HBV.out.size)
         obtain ⟨b',o',ea',hn,-⟩:=(HX.out.later hw2).part (Nat.lt_trans hk HIN.out)
         rw [ea'] at k5
         obtain ⟨d0,d1,d2,d3,d4,d5⟩:=hn
         have CU:=HU.out k (Nat.lt_trans hk HIN.out) wr hw2
         have HK:=hid hk
         have hkx:=Nat.lt_trans hk HIN.out
         clear ea' hki hw2
         go_wp2_with (go_at_call 82;refine CU.mono ?_;clear CU;rintro e w3 ⟨u,rfl,hu,hB3⟩;obtain ⟨au,cu,rfl,-,hcu,hcm,hcells⟩:=own_uses hu)
         have HC:=hid hcells
         have HO3:Hid (w3.ownsRow V.heap.size 9 1 l (Gth x k 0).length (cellsS (Gth x k 0))):=own_laterS HO.out hB3
         have HB3:Hid (Below V.heap.size V w3):=hB2.trans (hB3.mono hB2.size)
         have HLU:=hid hcu
         have hlu:(usesP (x.c k)).length≤1048576:=by
          have h1:=length_uses (x.c k)
          have h2:=x.size_part k (Nat.lt_trans HK.out HIN.out)
          have h3:=HSM.out
          omega
         clear hk hkx hcells hu hB3 HO hB2 k0 k5 d0 d1 d2 d3 d4 d5 hcu hcm
         go_loopw [8,11] (fun lv mv w4=>∃ (m:Nat) (l:Value),m≤(usesP (x.c k)).length∧l=lv∧mv=.int .i64 m∧Hid (w4.ownsRow V.heap.size 9 1 l (Gth x k m).length (cellsS (Gth x k m)))∧Hid (Below w3.heap.size w3 w4)) (fun _ mv _=>(usesP (x.c k)).length - (intOf mv).toNat)
         case atStart=>exact ⟨0,_,Nat.zero_le _,rfl,rfl,HO3.out,Below.refl _ _⟩
         case round =>
          obtain ⟨m,l,hm,rfl,rfl,HO,HB4⟩:=hrel
          by_cases hmn:m < (usesP (x.c k)).length
          · obtain ⟨y,hy⟩:∃ y,y=(usesP (x.c k))[m]:=⟨_,rfl⟩
            obtain ⟨g,eg,-,-,q0,-,q2⟩:=HC.out m y (by rw [hy];exact List.getElem?_eq_getElem hmn)
            have q0:=cell_later q0 HB4.out
            have q2:=cell_later q2 HB4.out
            have hst:=Gth_step x k m hmn
            rw [← hy] at hst
            have HMN:=hid hmn
            subst eg
            clear hy hm
            by_cases h6:y.k=6
            · have t6:(y.k != 6)=false:=by simp [h6]
              rw [if_pos h6] at hst
              have HST:=hid hst
              clear h6 hst hmn
              go_wp2_with fail
              go_roundw
              case rel=>exact ⟨m+1,l,HMN.out,rfl,by simp,by rw [HST.out];exact HO.out,HB4.out⟩
              case measure=>have:=HMN.out;simp [intOf];omega
            · have t6:(y.k != 6)=true:=by simp [h6]
              rw [if_neg h6] at hst
              have HST:=hid hst
              obtain ⟨al,cl,rfl⟩:=row_slice HO.out
              have CI:=into_any al _ cl (atS (Gth x k m)) y.s wr (own_txs' HO.out) (Nat.le_trans (Gth_len x k m (Nat.lt_trans HK.out HIN.out)) HSM.out)
              rw [lstS_all] at CI
              clear h6 hst hmn
              go_wp2_with (go_at_call 94;refine CI.mono ?_;clear CI;rintro e w5 ⟨v5,rfl,ho5,hB5⟩)
              go_roundw
              case rel =>
               refine ⟨m+1,v5,HMN.out,rfl,by simp,?_,HB4.out.trans (hB5.mono HB4.out.size)⟩
               show w5.ownsRow _ _ _ _ _ _
               rw [HST.out]
               exact own_low3 ho5 (Nat.le_trans HB3.out.size HB4.out.size)
              case measure=>have:=HMN.out;simp [intOf];omega
          · obtain rfl:m=(usesP (x.c k)).length:=by omega
            have hkx:=Nat.lt_trans HK.out HIN.out
            go_wp2_with fail
            go_roundw
            case rel=>exact ⟨k+1,l,HK.out,rfl,by simp,by rw [← Gth_next];exact HO.out,HB3.out.trans (HB4.out.mono HB3.out.size)⟩
            case measure=>have h1:=HK.out;have h2:=HIN.out;simp [intOf];omega
       · obtain rfl:k=i:=by omega
         obtain ⟨al,cl,rfl⟩:=row_slice HO.out
         have hone:=RR.one (own_low3 HO.out (Nat.zero_le _))
         have hal:Below wr.heap.size wr (wr.alloc (.cells #[.slice al (Gth x k 0).length cl] 37)):=nwB _ _
         have hAw:=HAV.out.trans (hB2.mono HAV.out.size)
         obtain ⟨v3,w3,r3,hR3,hg3⟩:=((HRV.out.later hB2).later hal).app (Nat.le_trans hAw.size hal.size) hone (by have:=ahP_cat s x k (Nat.le_of_lt HIN.out);have:=HSM.out;simp only [List.length_cons,List.length_nil];omega)
         have hB3:=((HRV.out.later hB2).later hal).below (hAw.trans (hal.mono hAw.size)) (Nat.le_trans hAw.size hal.size) hg3
         have hbx:w3.heap[BX]? = V.heap[BX]?:=((hg3.block BX (Nat.lt_of_lt_of_le (Nat.lt_of_lt_of_le HNV.out.lt hB2.size) hal.size) (fun e=>by have:=HOB.out BX e.symm;omega)).trans (hal.block BX (Nat.lt_of_lt_of_le HNV.out.lt hB2.size))).trans (hB2.block BX HNV.out.lt)
         obtain ⟨e0,e1,e2,e3,e4,e5⟩:=(HNV.out.of (w':=w3) (fun j _=>by simp only [World.cell?];rw [hbx])).at0
         obtain ⟨k0,-,-,-,-,k5⟩:=(HN.out.later hB3).at0
         have CI:=HI.out k HIN.out w3 (HB.out.trans (hB3.mono HB.out.size))
         have HR3:=hid r3
         obtain ⟨L3,hL3⟩:∃ L3,L3=catN (ahP s x) k ++ [Gth x k 0]:=⟨_,rfl⟩
         rw [← hL3] at hR3
         have HL3:=hid hL3
         have HRR:=hid hR3
         have HB3:=hid hB3
         obtain ⟨a3,c3,rfl⟩:=hR3.slice
         have hkx:=HIN.out
         clear hL3 r3 hR3 hg3 hB3 hbx hone hal hAw HO hB2 hki hk
         go_wp2_with (first
          | (go_at_call 40;refine CI.mono ?_;clear CI;rintro e w4 ⟨u4,rfl,hu4,hB4⟩
             obtain ⟨v5,w5,r5,hR5,hg5⟩:=(HRR.out.later hB4).app (Nat.le_trans HB3.out.size hB4.size) hu4 (by have h1:=ahP_cat s x (k+1) HIN.out;have h2:=HSM.out;rw [HL3.out];rw [show catN (ahP s x) (k+1)=catN (ahP s x) k ++ ahP s x k from rfl,List.length_append] at h1;have h3:(ahP s x k).length=1+(ahL s (x.c k)).length:=(by unfold ahP;rw [if_pos HIT.out,List.length_append];rfl);simp only [List.length_append,List.length_cons,List.length_nil];omega)
             have hA4:=HB3.out.trans (hB4.mono HB3.out.size)
             have HB5:Hid (Below A.heap.size A w5):=(HRR.out.later hB4).below hA4 hA4.size hg5
             obtain ⟨a4,c4,rfl⟩:=hu4.slice
             have HR5:=hid r5
             have HRR5:=hid hR5
             clear r5 hR5 hg5 hA4 hu4)
          | (at_builtin;refine wpList_append_run rfl (.tmp 72) (.tmp 75) 91 rfl _ _ _ rfl rfl HR5.out ?_)
          | (at_builtin;refine wpList_append_run rfl (.tmp 68) (.tmp 70) 91 rfl _ _ _ rfl rfl HR3.out ?_))
         go_roundw
         case rel =>
          refine ⟨k+1,v5,HIN.out,rfl,by have h1:=HIN.out;go_num,?_,HB5.out⟩
          show RR _ _ _ (catN (ahP s x) k ++ ahP s x k)
          rw [show ahP s x k=[Gth x k 0] ++ ahL s (x.c k) by unfold ahP;rw [if_pos HIT.out,Gth_end],← List.append_assoc,← HL3.out]
          exact HRR5.out
         case measure=>have:=HIN.out;simp [intOf];omega
    · have HIT:=hid hit
      have nx:catN (ahP s x) (i+1)=catN (ahP s x) i ++ ahL s (x.c i):=by
       show catN (ahP s x) i ++ ahP s x i=_
       unfold ahP
       rw [if_neg hit,List.nil_append]
      have NX:=hid nx
      have CI:=HI.out i HIN.out V (HB.out.trans (HAV.out.mono HB.out.size))
      obtain ⟨av,cv,rfl⟩:=HRV.out.slice
      have hor:(x.k == 2)=false ∨ ((x.k == 2)=true∧((x.c i).k == 6)=false) ∨ ((x.k == 2)=true∧((x.c i).k == 6)=true∧¬ (x.c i).s=s):=by
       by_cases h1:x.k=2
       · by_cases h2:(x.c i).k=6
         · exact .inr (.inr ⟨by simp [h1],by simp [h2],fun h3=>hit (by simp [hitF,h1,h2,h3])⟩)
         · exact .inr (.inl ⟨by simp [h1],by simp [h2]⟩)
       · exact .inl (by simp [h1])
      clear hit nx HIT
      rcases hor with q1 | ⟨q1,q2⟩ | ⟨q1,q2,q3⟩
      rotate_left
      rotate_left
      have q4:=str_not q3
      have q5:=str_not (fun h=>q3 (Eq.symm h))
      clear q3
      rotate_left
      all_goals go_wp2_with (first
       | (go_at_call 40;refine CI.mono ?_;clear CI;rintro e w4 ⟨u4,rfl,hu4,hB4⟩
          obtain ⟨v5,w5,r5,hR5,hg5⟩:=(HRV.out.later hB4).app (Nat.le_trans HAV.out.size hB4.size) hu4 (by have h1:=ahP_cat s x (i+1) HIN.out;rw [NX.out] at h1;have h2:=HSM.out;simp only [List.length_append] at h1;omega)
          have hA4:=HAV.out.trans (hB4.mono HAV.out.size)
          have HB5:Hid (Below A.heap.size A w5):=(HRV.out.later hB4).below hA4 hA4.size hg5
          obtain ⟨a4,c4,rfl⟩:=hu4.slice
          have HR5:=hid r5
          have HRR5:=hid hR5
          clear r5 hR5 hg5 hA4 hu4)
       | (at_builtin;refine wpList_append_run rfl (.tmp 72) (.tmp 75) 91 rfl _ _ _ rfl rfl HR5.out ?_))
      all_goals go_roundw
      case rel=>exact ⟨i+1,v5,HIN.out,rfl,by simp,by rw [NX.out];exact HRR5.out,HB5.out⟩
      case measure=>have:=HIN.out;simp [intOf];omega
      case rel=>exact ⟨i+1,v5,HIN.out,rfl,by simp,by rw [NX.out];exact HRR5.out,HB5.out⟩
      case measure=>have:=HIN.out;simp [intOf];omega
      case rel=>exact ⟨i+1,v5,HIN.out,rfl,by simp,by rw [NX.out];exact HRR5.out,HB5.out⟩
      case measure=>have:=HIN.out;simp [intOf];omega
  · obtain rfl:i=x.n:=by omega
    go_wp2
    go_ret
    refine ⟨_,rfl,?_,hw⟩
    rw [ahL_eq]
    exact HR.out.low HB.out.size
theorem refIn_any (a:Option Addr) (n cap:Nat) (l:List ByteArray) (s:ByteArray) (w:World) (h:Txs w a n (atS l)) (hl:l.length=n) (hn:n≤9223372036854775807) :
 Calls Tryz.prog 41 #[.slice a n cap,.string s] w fun e w'=>e=.returned (.bool (memB l s))∧w'=w:=by
 have HT:=hid h
 have HL:=hid hl
 clear h hl
 go_enter Tryz.func41,Tryz.ntmps41
 go_wp2
 go_loopw [5] (fun u wr=>∃ k:Nat,k≤n∧u=.int .i64 k∧Hid (∀ j,j < k→atS l j ≠ s)∧wr=w) (fun u _=>n - (intOf u).toNat)
 case atStart=>exact ⟨0,Nat.zero_le _,rfl,fun j hj=>absurd hj (Nat.not_lt_zero _),rfl⟩
 case round =>
  obtain ⟨k,hk,rfl,Hne,rfl⟩:=hrel
  by_cases hkn:k < n
  · obtain ⟨b,o,rfl,hc⟩:=HT.out (by omega)
    have hck:=hc k hkn
    have HK:=hid hkn
    clear hc
    by_cases e:atS l k=s
    · have es:=str_yes e
      have es':=str_yes e.symm
      have HE:=hid e
      clear e
      go_wp2
      go_ret
      exact ⟨by rw [memB_iff.2 (mem_atS.2 ⟨k,by rw [HL.out];exact HK.out,HE.out⟩)];rfl,by first | rfl | trivial⟩
    · have es:=str_not e
      have es':=str_not (fun h=>e (Eq.symm h))
      have HE:=hid e
      clear e
      go_wp2
      go_roundw
      case rel =>
       refine ⟨k+1,HK.out,by simp,fun j hj=>?_,by first | rfl | trivial⟩
       by_cases ej:j=k
       · rw [ej];exact HE.out
       · exact Hne.out j (by omega)
      case measure=>have:=HK.out;simp [intOf];omega
  · have hkn':k=n:=by omega
    subst hkn'
    go_wp2
    go_ret
    have hf:memB l s=false:=Bool.eq_false_iff.2 fun h=>by
     obtain ⟨j,hj,e⟩:=mem_atS.1 (memB_iff.1 h)
     exact Hne.out j (by rw [← HL.out];exact hj) e
    exact ⟨by rw [hf];rfl,by first | rfl | trivial⟩
end Go.Proofs.YtkfpgkohkhhlhaaGreatDoor
