/- Texts that the last one stands on. -/
import Derived.Test.YtkfpgkohkhhlhaaGreatDoorHPatUses
import Derived.Test.YtkfpgkohkhhlhaaGreatDoorHPatApart
set_option maxRecDepth 100000
set_option maxHeartbeats 16000000
namespace Go.Proofs.YtkfpgkohkhhlhaaGreatDoor
open Go.RowKit
abbrev useV (y:Pt):Value:=.agg #[.string y.s,.string y.t,.int .i64 y.k]
def agreeB (a b:Pt):Bool:=decide (a.t=b.t) && ((a.k == 6) == (b.k == 6))
theorem agreeB_iff (a b:Pt):agreeB a b=true ↔ Agree a b:=by
 unfold agreeB Agree
 have e1:(a.k == 6)=decide (a.k=6):=by by_cases h:a.k=6 <;> simp [h]
 have e2:(b.k == 6)=decide (b.k=6):=by by_cases h:b.k=6 <;> simp [h]
 rw [e1,e2]
 by_cases h1:a.k=6 <;> by_cases h2:b.k=6 <;> simp [h1,h2]
theorem boxU_two (x y:Pt) (w:World):∃ A,(w.alloc (.cells #[.string x.s,.string x.t,.int .i64 x.k] 137)).alloc (.cells #[.string y.s,.string y.t,.int .i64 y.k] 137)=A∧Below w.heap.size w A ∧
 (A.cell? ⟨w.heap.size,1,none⟩=some (.string x.t)∧A.cell? ⟨w.heap.size,2,none⟩=some (.int .i64 x.k))∧A.cell? ⟨w.heap.size+1,1,none⟩=some (.string y.t)∧A.cell? ⟨w.heap.size+1,2,none⟩=some (.int .i64 y.k):=by
 have h1:((w.alloc (.cells #[.string x.s,.string x.t,.int .i64 x.k] 137)).alloc (.cells #[.string y.s,.string y.t,.int .i64 y.k] 137)).heap[w.heap.size]? = some (.cells #[.string x.s,.string x.t,.int .i64 x.k] 137 (0,0)):=(alloc_old (by simp)).trans (alloc_new w _)
 have h2:((w.alloc (.cells #[.string x.s,.string x.t,.int .i64 x.k] 137)).alloc (.cells #[.string y.s,.string y.t,.int .i64 y.k] 137)).heap[w.heap.size+1]? = some (.cells #[.string y.s,.string y.t,.int .i64 y.k] 137 (0,0)):=alloc2_new _ _ _
 refine ⟨_,rfl,(nwB w _).alloc (by simp) _,⟨?_,?_⟩,?_,?_⟩
 · simp only [World.cell?,h1];rfl
 · simp only [World.cell?,h1];rfl
 · simp only [World.cell?,h2];rfl
 · simp only [World.cell?,h2];rfl
theorem refAgree_any (x y:Pt) (w:World):Calls Tryz.prog 131 #[useV x,useV y] w (RV (.bool (agreeB x y)) w):=by
 obtain ⟨A,hA,hB,⟨a1,a2⟩,b1,b2⟩:=boxU_two x y w
 have HB:=hid hB
 clear hB
 by_cases e:x.t=y.t
 · have t:=str_yes e
   have HR:Hid (agreeB x y=((x.k == 6) == (y.k == 6))):=by show _=_;unfold agreeB;rw [decide_eq_true e,Bool.true_and]
   clear e
   go_enter Tryz.func131,Tryz.ntmps131
   go_wp2
   go_ret
   exact ⟨by rw [HR.out];rfl,HB.out⟩
 · have t:=str_not e
   have HR:Hid (agreeB x y=false):=by show _=_;unfold agreeB;rw [decide_eq_false e,Bool.false_and]
   clear e
   go_enter Tryz.func131,Tryz.ntmps131
   go_wp2
   go_ret
   exact ⟨by rw [HR.out];rfl,HB.out⟩
def OkU (x a b:Pt):Prop:=a.s=b.s→x.k=4∧Agree a b
open Classical in
noncomputable def oncePB (x:Pt):Bool:=if OnceP x then true else false
theorem oncePB_yes {x:Pt} (h:OnceP x):oncePB x=true:=if_pos h
theorem oncePB_no {x:Pt} (h:¬ OnceP x):oncePB x=false:=if_neg h
theorem refOnce_step (x:Pt) (w:World) (hX:IsP w x) (hsm:x.size≤1048576) (ih:∀ i,i < x.n→∀ w:World,IsP w (x.c i)→Calls Tryz.prog 81 #[(x.c i).val] w (RV (.bool (oncePB (x.c i))) w)) :
 Calls Tryz.prog 81 #[x.val] w (RV (.bool (oncePB x)) w):=by
 obtain ⟨r,hr⟩:∃ r,r=oncePB x:=⟨_,rfl⟩
 have HF1:Hid (∀ i,i < x.n→¬ OnceP (x.c i)→r=false):=fun i hi h=>by
  rw [hr]
  refine oncePB_no ?_
  rw [onceP_eq]
  exact fun e=>h (e i hi).1
 have HF2:Hid (∀ i,i < x.n→∀ j,j < i→∀ a ∈ usesP (x.c i),∀ b ∈ usesP (x.c j),¬ OkU x a b→r=false):=fun i hi j hj a ha b hb h=>by
  rw [hr]
  refine oncePB_no ?_
  rw [onceP_eq]
  exact fun e=>h ((e i hi).2 j hj a ha b hb)
 have HT:Hid ((∀ i,i < x.n→OnceP (x.c i)∧∀ j,j < i→∀ a ∈ usesP (x.c i),∀ b ∈ usesP (x.c j),OkU x a b)→r=true):=fun h=>by
  rw [hr]
  refine oncePB_yes ?_
  rw [onceP_eq]
  exact h
 rw [← hr]
 obtain ⟨A,hA,hB,hs,hn⟩:=boxP_one x w
 obtain ⟨a0,a1,a2,a3,a4,a5⟩:=hn.at0
 have HB:=hid hB
 have HN:=hid hn
 have HX:=hid hX
 have hlen:=hX.len
 have HI:Hid (∀ i,i < x.n→∀ W,Below w.heap.size w W→Calls Tryz.prog 81 #[(x.c i).val] W (RV (.bool (oncePB (x.c i))) W)):=fun i hi W hW=>by
  obtain ⟨_,_,_,_,h1⟩:=(hX.later hW).part hi
  exact ih i hi W h1
 have HUS:Hid (∀ i,i < x.n→∀ W,Below w.heap.size w W→Calls Tryz.prog 82 #[(x.c i).val] W fun e w'=>∃ a cap,e=.returned (.slice a (usesP (x.c i)).length cap)∧Hid (∀ (j:Nat) (y:Pt),(usesP (x.c i))[j]? = some y→∃ g,a=some ⟨g,0,none⟩∧w'.cell? ⟨g,j * 3,none⟩=some (.string y.s)∧w'.cell? ⟨g,j * 3+1,none⟩=some (.string y.t)∧w'.cell? ⟨g,j * 3+2,none⟩=some (.int .i64 y.k))∧Below W.heap.size W w'):=fun i hi W hW=>by
  obtain ⟨_,_,_,_,h1⟩:=(hX.later hW).part hi
  refine (refUses_any (x.c i) W h1 (by have:=x.size_part i hi;omega)).mono ?_
  rintro e w' ⟨v,rfl,hv,hB'⟩
  obtain ⟨a,cap,rfl,-,-,-,hc⟩:=own_uses hv
  refine ⟨a,cap,rfl,fun j y hy=>?_,hB'⟩
  obtain ⟨g,e1,_,_,c0,c1,c2⟩:=hc j y hy
  exact ⟨g,e1,c0,c1,c2⟩
 have HUL:Hid (∀ i,i < x.n→(usesP (x.c i)).length≤1048576):=fun i hi=>by have:=length_uses (x.c i);have:=x.size_part i hi;omega
 clear hB hn hX ih hs hsm hr
 go_enter Tryz.func81,Tryz.ntmps81
 go_wp2_with fail
 clear a0 a1 a2 a3 a4 a5 hA
 go_loopw [3] (fun iv wr=>∃ i:Nat,i≤x.n∧iv=.int .i64 i∧Hid (∀ i',i' < i→OnceP (x.c i')∧∀ j,j < i'→∀ a ∈ usesP (x.c i'),∀ b ∈ usesP (x.c j),OkU x a b)∧Below A.heap.size A wr) (fun iv _=>x.n - (intOf iv).toNat)
 case atStart=>exact ⟨0,Nat.zero_le _,rfl,fun i' h=>absurd h (Nat.not_lt_zero _),Below.refl _ _⟩
 case round =>
  obtain ⟨i,hi,rfl,HK,hBr⟩:=hrel
  have hw:=HB.out.trans (hBr.mono HB.out.size)
  obtain ⟨c0,c1,c2,c3,c4,c5⟩:=(HN.out.later hBr).at0
  by_cases hin:i < x.n
  · obtain ⟨b,o,ea,hn,-⟩:=(HX.out.later hw).part hin
    rw [ea] at c5
    obtain ⟨d0,d1,d2,d3,d4,d5⟩:=hn
    have hc:=HI.out i hin wr hw
    have HIN:=hid hin
    have HWR:=hid hw
    clear hw ea
    by_cases ho:OnceP (x.c i)
    · have e1:oncePB (x.c i)=true:=oncePB_yes ho
      rw [e1] at hc
      have HOI:=hid ho
      have hcu:=HUS.out i hin
      have HND:Hid (NodeP wr b (o+i * 6) (x.c i)):=⟨d0,d1,d2,d3,d4,d5⟩
      have C5:=hid c5
      clear ho e1
      go_wp2_with (first
       | (go_at_call 81;refine hc.mono ?_;clear hc;rintro e w2 ⟨rfl,hB2⟩;have c5':=cell_later C5.out hB2;obtain ⟨f0,f1,f2,f3,f4,f5⟩:=HND.out.later hB2;have hw2:=HWR.out.trans (hB2.mono HWR.out.size))
       | (go_at_call 82;refine (hcu w2 hw2).mono ?_;clear hcu;rintro e w3 ⟨au,capu,rfl,hau,hB3⟩))
      have hw3:=hw2.trans (hB3.mono hw2.size)
      have HW3:=hid hw3
      have HB3:Hid (Below A.heap.size A w3):=(hBr.trans (hB2.mono hBr.size)).trans (hB3.mono (Nat.le_trans hBr.size hB2.size))
      have hAL:=HUL.out i hin
      have HIO:Hid (∀ j,j < i→j < x.n):=fun j hj=>by have:=HIN.out;omega
      clear hw3 hw2 hB2 hB3 c0 c1 c2 c3 c4 c5 c5' d0 d1 d2 d3 d4 d5 f0 f1 f2 f3 f4 f5 C5 HND hBr
      obtain ⟨U,hU⟩:∃ U,U=usesP (x.c i):=⟨_,rfl⟩
      rw [← hU] at hau hAL ⊢
      have HU:=hid hU
      clear hU
      go_loopw [5] (fun jv ws=>∃ j:Nat,j≤i∧jv=.int .i64 j∧Hid (∀ j',j' < j→∀ a ∈ U,∀ b ∈ usesP (x.c j'),OkU x a b)∧Below w3.heap.size w3 ws) (fun jv _=>i - (intOf jv).toNat)
      case atStart=>exact ⟨0,Nat.zero_le _,rfl,fun j' h=>absurd h (Nat.not_lt_zero _),Below.refl _ _⟩
      case round =>
       obtain ⟨j,hj,rfl,HK2,hBs⟩:=hrel
       have hws:=HW3.out.trans (hBs.mono HW3.out.size)
       by_cases hji:j < i
       · have hjn:=HIO.out j hji
         obtain ⟨b,o,ea,hn,-⟩:=(HX.out.later hws).part hjn
         have c5:=((HN.out.later HB3.out).later hBs).at0.2.2.2.2.2
         rw [ea] at c5
         obtain ⟨d0,d1,d2,d3,d4,d5⟩:=hn
         have hcu:=HUS.out j hjn wr hws
         have hBL:=HUL.out j hjn
         have HJI:=hid hji
         have HWS:=hid hws
         clear ea hws
         go_wp2_with (first
          | (go_at_call 82;refine hcu.mono ?_;clear hcu;rintro e w4 ⟨bu,capb,rfl,hbu,hB4⟩))
         have HW4:Hid (Below w.heap.size w w4):=HWS.out.trans (hB4.mono HWS.out.size)
         have HB34:Hid (Below w3.heap.size w3 w4):=hBs.trans (hB4.mono hBs.size)
         clear c5 d0 d1 d2 d3 d4 d5 hB4 hBs HWS
         obtain ⟨V,hV⟩:∃ V,V=usesP (x.c j):=⟨_,rfl⟩
         rw [← hV] at hbu hBL ⊢
         have HV:=hid hV
         have HFF:Hid (∀ a ∈ U,∀ b ∈ V,¬ OkU x a b→r=false):=fun a ha b hb h=>HF2.out i HIN.out j HJI.out a (HU.out ▸ ha) b (HV.out ▸ hb) h
         clear hV
         go_loopw [7] (fun mv wt=>∃ m:Nat,m≤U.length∧mv=.int .i64 m∧Hid (∀ m' a,m' < m→U[m']? = some a→∀ b ∈ V,OkU x a b)∧Below w4.heap.size w4 wt) (fun mv _=>U.length - (intOf mv).toNat)
         case atStart=>exact ⟨0,Nat.zero_le _,rfl,fun m' a h=>absurd h (Nat.not_lt_zero _),Below.refl _ _⟩
         case round =>
          obtain ⟨m,hm,rfl,HK3,hBt⟩:=hrel
          by_cases hmn:m < U.length
          · obtain ⟨a,ha⟩:∃ a,U[m]? = some a:=⟨U[m]'hmn,List.getElem?_eq_getElem _⟩
            have HMN:=hid hmn
            have HMA:=hid ha
            have haU:a ∈ U:=by obtain ⟨h,e⟩:=List.getElem?_eq_some_iff.1 ha;rw [← e];exact List.getElem_mem h
            have HAU:=hid haU
            obtain ⟨ga,rfl,p0,p1,p2⟩:=hau.out m a ha
            have HPA:Hid (w3.cell? ⟨ga,m * 3,none⟩=some (.string a.s)∧w3.cell? ⟨ga,m * 3+1,none⟩=some (.string a.t)∧w3.cell? ⟨ga,m * 3+2,none⟩=some (.int .i64 a.k)):=⟨p0,p1,p2⟩
            clear ha haU p0 p1 p2
            go_wp2_with fail
            have hBt0:=hBt
            clear hBt
            obtain ⟨w5,hw5⟩:∃ w5,w5=wr:=⟨_,rfl⟩
            rw [← hw5] at hBt0 ⊢
            clear hw5
            go_loopw [8] (fun nv wu=>∃ n:Nat,n≤V.length∧nv=.int .i64 n∧Hid (∀ n' b,n' < n→V[n']? = some b→OkU x a b)∧Below w5.heap.size w5 wu) (fun nv _=>V.length - (intOf nv).toNat)
            case atStart=>exact ⟨0,Nat.zero_le _,rfl,fun n' b h=>absurd h (Nat.not_lt_zero _),Below.refl _ _⟩
            case round =>
             obtain ⟨n,hn,rfl,HK4,hBu⟩:=hrel
             have hb4:=hBt0.trans (hBu.mono hBt0.size)
             have hb3:=HB34.out.trans (hb4.mono HB34.out.size)
             by_cases hnn:n < V.length
             · obtain ⟨b,hb⟩:∃ b,V[n]? = some b:=⟨V[n]'hnn,List.getElem?_eq_getElem _⟩
               have HNN:=hid hnn
               have HNB:=hid hb
               have hbV:b ∈ V:=by obtain ⟨h,e⟩:=List.getElem?_eq_some_iff.1 hb;rw [← e];exact List.getElem_mem h
               obtain ⟨gb,rfl,q0,q1,q2⟩:=hbu.out n b hb
               have e0:=cell_later q0 hb4
               have e1:=cell_later q1 hb4
               have e2:=cell_later q2 hb4
               have g0:=cell_later HPA.out.1 hb3
               have g1:=cell_later HPA.out.2.1 hb3
               have g2:=cell_later HPA.out.2.2 hb3
               have ck:=((HN.out.later HB3.out).later hb3).at0.1
               have HFO:Hid (¬ OkU x a b→r=false):=HFF.out a HAU.out b hbV
               have HWU:Hid (Below w.heap.size w wr):=HW3.out.trans (hb3.mono HW3.out.size)
               have HNX:Hid (OkU x a b→∀ n' b',n' < n+1→V[n']? = some b'→OkU x a b'):=fun ho n' b' h1 h2=>by
                by_cases e:n'=n
                · rw [e,HNB.out] at h2;cases h2;exact ho
                · exact HK4.out n' b' (by omega) h2
               clear hb hbV q0 q1 q2 hb3 hb4
               by_cases es:a.s=b.s
               · have t1:=str_yes es
                 by_cases ek:x.k=4
                 · have t2:(x.k != 4)=false:=by simp [ek]
                   obtain ⟨z,hz⟩:∃ z,z=agreeB a b:=⟨_,rfl⟩
                   have hc:Hid (∀ d,Calls Tryz.prog 131 #[useV a,useV b] d (RV (.bool z) d)):=fun d=>by rw [hz];exact refAgree_any a b d
                   have HZ1:Hid (z=true→OkU x a b):=fun h _=>⟨ek,(agreeB_iff a b).1 (hz ▸ h)⟩
                   have HZ0:Hid (z=false→r=false):=fun h=>HFO.out fun e=>by
                    have:=(agreeB_iff a b).2 (e es).2
                    rw [← hz,h] at this;cases this
                   have E0:Hid _:=e0
                   have E1:Hid _:=e1
                   have E2:Hid _:=e2
                   have G0:Hid _:=g0
                   have G1:Hid _:=g1
                   have G2:Hid _:=g2
                   have CK:Hid _:=ck
                   clear es ek hz e0 e1 e2 g0 g1 g2 ck
                   cases z with
                   | true =>
                     go_wp2_with fail
                     refine bg fun d hHeld=>?_
                     have hT:=hHeld
                     refine tk 0 ?_
                     refine tk 1 ?_
                     refine tk 2 ?_
                     refine tk 3 ?_
                     refine tk 4 ?_ (hy:=fun w9 hSw=>by have cc:=cell_later G0.out hSw;go_simp;(try with_reducible rfl))
                     refine tk 5 ?_
                     refine tk 6 ?_
                     refine tk 7 ?_
                     refine tk 8 ?_
                     refine tk 9 ?_ (hy:=fun w9 hSw=>by have cc:=cell_later E0.out hSw;go_simp;(try with_reducible rfl))
                     refine tk 10 ?_
                     refine tk 11 ?_
                     refine tk 12 ?_
                     refine tk 13 ?_ (hy:=fun w9 hSw=>by have cc:=cell_later CK.out hSw;go_simp;(try with_reducible rfl))
                     refine tk 14 ?_
                     refine tk 15 ?_
                     refine tk 16 ?_
                     refine tk 17 ?_
                     refine tk 18 ?_
                     refine tk 19 ?_ (hy:=fun w9 hSw=>by have cc0:=cell_later G0.out hSw;have cc1:=cell_later G1.out hSw;have cc2:=cell_later G2.out hSw;go_simp;(try with_reducible rfl))
                     refine tk 20 ?_
                     refine tk 21 ?_
                     refine tk 22 ?_
                     refine tk 23 ?_ (hy:=fun w9 hSw=>by have cc0:=cell_later E0.out hSw;have cc1:=cell_later E1.out hSw;have cc2:=cell_later E2.out hSw;go_simp;(try with_reducible rfl))
                     refine rd 24 fun K hK=>?_
                     go_simp
                     refine (hc.out _).mono ?_
                     rintro e x24 ⟨rfl,hN24⟩
                     go_wp2_with fail
                     refine up hK hHeld hN24 ?_
                     replace hT:=hT.trans (hN24.mono hT.size)
                     replace hHeld:=Below.refl x24.heap.size x24
                     clear hK K hN24
                     refine tk 25 ?_
                     refine tk 26 ?_
                     refine tk 27 ?_
                     refine dn ?_
                     go_wp2
                     go_roundw
                     case rel=>exact ⟨n+1,HNN.out,by go_num,HNX.out (HZ1.out (by trivial)),hBu.trans (hT.mono hBu.size)⟩
                     case measure=>have:=HNN.out;simp [intOf];omega
                   | false =>
                     go_wp2_with fail
                     refine bg fun d hHeld=>?_
                     have hT:=hHeld
                     refine tk 0 ?_
                     refine tk 1 ?_
                     refine tk 2 ?_
                     refine tk 3 ?_
                     refine tk 4 ?_ (hy:=fun w9 hSw=>by have cc:=cell_later G0.out hSw;go_simp;(try with_reducible rfl))
                     refine tk 5 ?_
                     refine tk 6 ?_
                     refine tk 7 ?_
                     refine tk 8 ?_
                     refine tk 9 ?_ (hy:=fun w9 hSw=>by have cc:=cell_later E0.out hSw;go_simp;(try with_reducible rfl))
                     refine tk 10 ?_
                     refine tk 11 ?_
                     refine tk 12 ?_
                     refine tk 13 ?_ (hy:=fun w9 hSw=>by have cc:=cell_later CK.out hSw;go_simp;(try with_reducible rfl))
                     refine tk 14 ?_
                     refine tk 15 ?_
                     refine tk 16 ?_
                     refine tk 17 ?_
                     refine tk 18 ?_
                     refine tk 19 ?_ (hy:=fun w9 hSw=>by have cc0:=cell_later G0.out hSw;have cc1:=cell_later G1.out hSw;have cc2:=cell_later G2.out hSw;go_simp;(try with_reducible rfl))
                     refine tk 20 ?_
                     refine tk 21 ?_
                     refine tk 22 ?_
                     refine tk 23 ?_ (hy:=fun w9 hSw=>by have cc0:=cell_later E0.out hSw;have cc1:=cell_later E1.out hSw;have cc2:=cell_later E2.out hSw;go_simp;(try with_reducible rfl))
                     refine rd 24 fun K hK=>?_
                     go_simp
                     refine (hc.out _).mono ?_
                     rintro e x24 ⟨rfl,hN24⟩
                     go_wp2_with fail
                     refine up hK hHeld hN24 ?_
                     replace hT:=hT.trans (hN24.mono hT.size)
                     replace hHeld:=Below.refl x24.heap.size x24
                     clear hK K hN24
                     refine tk 25 ?_
                     refine tk 26 ?_
                     refine tk 27 ?_
                     refine dn ?_
                     go_wp2
                     try rw [Exit.noGoto_ret]
                     go_ret
                     exact ⟨by rw [HZ0.out (by trivial)];rfl,HWU.out.trans (hT.mono HWU.out.size)⟩
                 · have t2:(x.k != 4)=true:=by simp [ek]
                   have HE:Hid (r=false):=HFO.out fun e=>ek (e es).1
                   clear es ek
                   go_wp2_with fail
                   go_quiet (fail)
                   go_wp2
                   try rw [Exit.noGoto_ret]
                   go_ret
                   exact ⟨by rw [HE.out];rfl,bd HWU.out _⟩
               · have t1:=str_not es
                 have HO:Hid (OkU x a b):=fun e=>absurd e es
                 clear es
                 go_wp2_with fail
                 go_quiet (fail)
                 go_wp2
                 go_roundw
                 case rel=>exact ⟨n+1,HNN.out,by go_num,HNX.out HO.out,bd hBu _⟩
                 case measure=>have:=HNN.out;simp [intOf];omega
             · obtain rfl:n=V.length:=by omega
               have HAL:Hid (∀ b ∈ V,OkU x a b):=fun b hb=>by
                obtain ⟨n',h1,h2⟩:=List.getElem_of_mem hb
                exact HK4.out n' b h1 (by rw [List.getElem?_eq_getElem h1,h2])
               go_wp2
               go_roundw
               case rel =>
                refine ⟨m+1,HMN.out,by go_num,fun m' a' h1 h2=>?_,hb4⟩
                by_cases e:m'=m
                · rw [e,HMA.out] at h2;cases h2;exact HAL.out
                · exact HK3.out m' a' (by omega) h2
               case measure=>have:=HMN.out;simp [intOf];omega
          · obtain rfl:m=U.length:=by omega
            go_wp2
            go_roundw
            case rel =>
             refine ⟨j+1,HJI.out,by go_num,fun j' h a ha b hb=>?_,HB34.out.trans (hBt.mono HB34.out.size)⟩
             by_cases e:j'=j
             · rw [e,← HV.out] at hb
               obtain ⟨m',h1,h2⟩:=List.getElem_of_mem ha
               exact HK3.out m' a h1 (by rw [List.getElem?_eq_getElem h1,h2]) b hb
             · exact HK2.out j' (by omega) a ha b hb
            case measure=>have:=HJI.out;simp [intOf];omega
       · obtain rfl:j=i:=by omega
         go_wp2
         go_roundw
         case rel =>
          refine ⟨j+1,HIN.out,by go_num,fun i' h=>?_,HB3.out.trans (hBs.mono HB3.out.size)⟩
          by_cases e:i'=j
          · rw [e,← HU.out];exact ⟨HOI.out,HK2.out⟩
          · exact HK.out i' (by omega)
         case measure=>have:=HIN.out;simp [intOf];omega
    · have e1:oncePB (x.c i)=false:=oncePB_no ho
      rw [e1] at hc
      have HE:Hid (r=false):=HF1.out i hin ho
      clear ho e1
      go_wp2_with (first | (go_at_call 81;refine hc.mono ?_;clear hc;rintro e w2 ⟨rfl,hB2⟩))
      try rw [Exit.noGoto_ret]
      go_ret
      exact ⟨by rw [HE.out];rfl,HWR.out.trans (hB2.mono HWR.out.size)⟩
  · obtain rfl:i=x.n:=by omega
    go_wp2
    go_ret
    exact ⟨by rw [HT.out HK.out];rfl,hw⟩
theorem refOnce_any:∀ (x:Pt) (w:World),IsP w x→x.size≤1048576→Calls Tryz.prog 81 #[x.val] w (RV (.bool (oncePB x)) w):=by
 refine Pt.ind fun x ih w hX hsm=>?_
 exact refOnce_step x w hX hsm fun i hi w' h=>ih i hi w' h (by have:=x.size_part i hi;omega)
theorem refNots_any:∀ (x:Pt) (whole:Bool) (w:World),IsP w x →
 Calls Tryz.prog 80 #[x.val,.bool whole] w (RV (.bool (notsP x whole)) w):=by
 refine Pt.ind fun x ih whole w hX=>?_
 obtain ⟨A,hA,hB,hs,hn⟩:=boxP_one x w
 obtain ⟨f,hf⟩:∃ f:Nat→Bool,f=fun i=>if (x.c i).k=6 then notB x whole i else notsP (x.c i) false:=⟨_,rfl⟩
 obtain ⟨r,hr⟩:∃ r,r=notsP x whole:=⟨_,rfl⟩
 have hr':r=allN f x.n:=by rw [hr,notsP_eq,hf]
 have HF:Hid (∀ i,i < x.n→f i=false→r=false):=fun i hi h=>hr'.trans (allN_false hi h)
 have HT:Hid ((∀ i,i < x.n→f i=true)→r=true):=fun h=>hr'.trans (allN_true.2 h)
 rw [← hr]
 have F6:Hid (∀ i,(x.c i).k=6→f i=notB x whole i):=fun i h=>by rw [hf];simp [h]
 have F0:Hid (∀ i,¬ (x.c i).k=6→f i=notsP (x.c i) false):=fun i h=>by rw [hf];simp [h]
 have HN:=hid hn
 have HX:Hid (IsP A x):=hX.later hB
 have HB:=hid hB
 have HI:Hid (∀ i,i < x.n→∀ d,IsP d (x.c i)→Calls Tryz.prog 80 #[(x.c i).val,.bool false] d (RV (.bool (notsP (x.c i) false)) d)):=fun i hi d hd=>ih i hi false d hd
 have hlen:=hX.len
 clear hr hr' hf hX hB ih hn
 go_enter Tryz.func80,Tryz.ntmps80
 go_wp2
 go_loopw [5] (fun u wr=>∃ k:Nat,k≤x.n∧u=.int .i64 k∧Hid (∀ i,i < k→f i=true)∧Below A.heap.size A wr) (fun u _=>x.n - (intOf u).toNat)
 case atStart=>exact ⟨0,Nat.zero_le _,rfl,fun i hi=>absurd hi (Nat.not_lt_zero _),Below.refl _ _⟩
 case round =>
  obtain ⟨k,hk,rfl,HK,hB⟩:=hrel
  have HBr:=hid hB
  by_cases hkn:k < x.n
  · obtain ⟨b1,o1,ea,hn1,hx1⟩:=(HX.out.later hB).part hkn
    obtain ⟨C,W,hC,hCb,hCW,hCB,hCn,hCs⟩:=boxP_put (x.c k) wr
    obtain ⟨⟨g0,g1,g2,g3,g4,g5⟩,f0,f1,f2,f3,f4,f5⟩:=zero_cells hCb
    have HBW:Hid (Below A.heap.size A W):=hB.trans (hCB.mono hB.size)
    have HXW:Hid (IsP W (x.c k)):=hx1.later hCB
    obtain ⟨e0,e1,e2,e3,e4,e5⟩:=(HN.out.later hB).at0
    obtain ⟨i0,i1,i2,i3,i4,i5⟩:=(HN.out.later HBW.out).at0
    obtain ⟨c0,c1,c2,c3,c4,c5⟩:=hn1
    obtain ⟨j0,j1,j2,j3,j4,j5⟩:=hCn.at0
    rw [ea] at e5 i5
    have HKN:=hid hkn
    have next:(f k=true)→∀ i,i < k+1→f i=true:=fun h i hi=>by
     by_cases e:i=k
     · rw [e];exact h
     · exact HK.out i (by omega)
    clear hx1 hCb hCn i1 i2 i3 i4 e0 e1 e2 e3 e4
    by_cases h6:(x.c k).k=6
    · have t1:((x.c k).k == 6)=true:=by simp [h6]
      have hfk:=F6.out k h6
      by_cases h2:x.k=2
      · have t2:(x.k != 2)=false:=by simp [h2]
        by_cases h0:k=0
        · have t3:(((k:Nat):Int) == 0)=true:=by simp [h0]
          have HE:Hid (r=false):=HF.out k hkn (by rw [hfk];rw [h0] at h6 ⊢;simp [notB,h6])
          clear h6 h2 h0 next ea hB hCB hCs hfk
          go_wp2
          all_goals first
           | (rename_i q1 q2;cases q1;done)
           | (go_ret;exact ⟨by rw [HE.out];rfl,HB.out.trans (HBW.out.mono HB.out.size)⟩)
        · obtain ⟨j,hj⟩:∃ j,k=j+1:=⟨k - 1,by omega⟩
          have hq:((k:Nat):Int) - 1=(j:Int):=by omega
          have hjn:j < x.n:=by omega
          have t3:(((k:Nat):Int) == 0)=false:=by simp;omega
          obtain ⟨b2,o2,ea2,hn2,-⟩:=(HX.out.later HBW.out).part hjn
          rw [ea] at ea2
          cases ea2
          obtain ⟨p0,p1,p2,p3,p4,p5⟩:=hn2
          have hkj:x.c (k - 1)=x.c j:=by rw [hj];rfl
          clear p1 p2 p3 p4 p5
          by_cases h5:(x.c j).k=6
          · have t4:((x.c j).k == 6)=true:=by simp [h5]
            have HE:Hid (r=false):=HF.out k hkn (by rw [hfk];simp [notB,h6,hkj,h5])
            clear h6 h2 h0 next ea hB hCB hCs hfk hj hkj h5
            go_wp2
            all_goals first
             | (rename_i q1 q2;cases q1;done)
             | (go_ret;exact ⟨by rw [HE.out];rfl,HB.out.trans (HBW.out.mono HB.out.size)⟩)
          · have t4:((x.c j).k == 6)=false:=by simp [h5]
            by_cases hl:k+1=x.n
            · have t5:(((k:Nat):Int) == ((x.n:Nat):Int) - 1)=true:=by simp;omega
              cases whole with
              | false =>
                have HE:Hid (r=false):=HF.out k hkn (by rw [hfk];simp [notB,h6,hl])
                clear h6 h2 h0 next ea hB hCB hCs hfk hj hkj h5 hl
                go_wp2
                all_goals first
                 | (rename_i q1 q2;cases q1;done)
                 | (go_ret;exact ⟨by rw [HE.out];rfl,HB.out.trans (HBW.out.mono HB.out.size)⟩)
              | true =>
                have HE:Hid (∀ i,i < k+1→f i=true):=next (by rw [hfk];simp [notB,h2,h0,hkj,h5])
                clear h6 h2 h0 next ea hB hCB hCs hfk hj hkj h5 hl
                go_wp2
                go_roundw
                case rel=>exact ⟨k+1,HKN.out,by go_num,HE,HBW.out⟩
                case measure=>have:=HKN.out;simp [intOf];omega
            · have t5:(((k:Nat):Int) == ((x.n:Nat):Int) - 1)=false:=by simp;omega
              have HE:Hid (∀ i,i < k+1→f i=true):=next (by rw [hfk];simp [notB,h2,h0,hkj,h5,hl])
              clear h6 h2 h0 next ea hB hCB hCs hfk hj hkj h5 hl
              go_wp2
              go_roundw
              case rel=>exact ⟨k+1,HKN.out,by go_num,HE,HBW.out⟩
              case measure=>have:=HKN.out;simp [intOf];omega
      · have t2:(x.k != 2)=true:=by simp [h2]
        have HE:Hid (r=false):=HF.out k hkn (by rw [hfk];simp [notB,h6,h2])
        clear h6 h2 next ea hB hCB hCs hfk
        go_wp2
        all_goals first
         | (rename_i q1 q2;cases q1;done)
         | (go_ret;exact ⟨by rw [HE.out];rfl,HB.out.trans (HBW.out.mono HB.out.size)⟩)
    · have t1:((x.c k).k == 6)=false:=by simp [h6]
      have hc:=HI.out k hkn W HXW.out
      rw [← F0.out k h6] at hc
      clear h6 hB hCB hCs
      cases hv:f k with
      | true =>
        rw [hv] at hc
        have HE:Hid (∀ i,i < k+1→f i=true):=next hv
        clear next hv ea
        go_wp2_with (go_at_call 80;refine hc.mono ?_;clear hc;rintro e w2 ⟨rfl,hB2⟩)
        go_roundw
        case rel=>exact ⟨k+1,HKN.out,by go_num,HE,HBW.out.trans (hB2.mono HBW.out.size)⟩
        case measure=>have:=HKN.out;simp [intOf];omega
      | false =>
        rw [hv] at hc
        have HE:Hid (r=false):=HF.out k hkn hv
        clear next hv ea
        go_wp2_with (go_at_call 80;refine hc.mono ?_;clear hc;rintro e w2 ⟨rfl,hB2⟩)
        go_ret
        exact ⟨by rw [HE.out];rfl,HB.out.trans ((HBW.out.trans (hB2.mono HBW.out.size)).mono HB.out.size)⟩
  · obtain rfl:k=x.n:=by omega
    obtain ⟨e0,e1,e2,e3,e4,e5⟩:=(HN.out.later hB).at0
    go_wp2
    go_ret
    exact ⟨by rw [HT.out HK.out];rfl,HB.out.trans (hB.mono HB.out.size)⟩
theorem refRow_any (x:Pt) (w:World):Calls Tryz.prog 155 #[x.val] w (RV (.bool (isRow x.k)) w):=by
 obtain ⟨A,hA,hB,hs,hn⟩:=boxP_one x w
 obtain ⟨a0,a1,a2,a3,a4,a5⟩:=hn.at0
 have HB:=hid hB
 have hr:isRow x.k=(x.k == 2 || x.k == 3 || x.k == 4):=rfl
 rw [hr]
 clear hB hn hr
 cases h2:x.k == 2
 · cases h3:x.k == 3
   · cases h4:x.k == 4
     all_goals (go_enter Tryz.func155,Tryz.ntmps155)
     all_goals go_wp2
     all_goals go_ret
     all_goals exact ⟨rfl,HB.out⟩
   · go_enter Tryz.func155,Tryz.ntmps155
     go_wp2
     go_ret
     exact ⟨rfl,HB.out⟩
 · go_enter Tryz.func155,Tryz.ntmps155
   go_wp2
   go_ret
   exact ⟨rfl,HB.out⟩
end Go.Proofs.YtkfpgkohkhhlhaaGreatDoor
