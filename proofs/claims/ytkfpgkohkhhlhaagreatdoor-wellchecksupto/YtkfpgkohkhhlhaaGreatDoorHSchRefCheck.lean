/- Texts that the last one stands on. -/
import Derived.Test.YtkfpgkohkhhlhaaGreatDoorHSchBase
import Derived.Test.YtkfpgkohkhhlhaaGreatDoorHVarsMath
import Derived.ProofKit
set_option maxRecDepth 100000
set_option maxHeartbeats 4000000
namespace Go.Proofs.YtkfpgkohkhhlhaaGreatDoor
open Go.RowKit
def fineB (S:ByteArray) (Nm:Nat→ByteArray) (K:Nat→Int) (i:Nat):Bool:=nameB S && (allR Nm K i && !dupB Nm i)
theorem fineB_next (S:ByteArray) (Nm:Nat→ByteArray) (K:Nat→Int) (i:Nat):fineB S Nm K (i+1)=((fineB S Nm K i && rightF (Nm i) (K i)) && !seenB Nm (Nm i) i):=by
 unfold fineB
 simp only [allR,dupB]
 cases nameB S <;> cases allR Nm K i <;> cases dupB Nm i <;> cases rightF (Nm i) (K i) <;> cases seenB Nm (Nm i) i <;> rfl
theorem chkZ_fine (S:ByteArray) (n:Nat) (Nm:Nat→ByteArray) (K:Nat→Int) (h:n≤16):chkZ S n Nm K=if fineB S Nm K n=true then 0 else 1:=by
 unfold chkZ fineB
 rw [if_neg (by omega)]
 cases nameB S <;> cases allR Nm K n <;> cases dupB Nm n <;> rfl
theorem refCheck_long (S:ByteArray) (a:Option Addr) (n cap:Nat) (w:World) (hn:¬ n≤16) :
 Calls Tryz.prog 75 #[schV S (.slice a n cap)] w (RV (.int .i64 2) w):=by
 have h16:16 < (n:Int):=by omega
 go_enter Tryz.func75,Tryz.ntmps75
 go_wp2
 go_ret
 exact ⟨rfl,nwB _ _⟩
theorem refCheck_few (S:ByteArray) (a:Option Addr) (n cap:Nat) (Nm:Nat→ByteArray) (K:Nat→Int) (w:World) (H:Flds w a n Nm K) (hn:n≤16) (hS:S.size≤maxLen) :
 Calls Tryz.prog 75 #[schV S (.slice a n cap)] w (RV (.int .i64 (if fineB S Nm K n=true then 0 else 1)) w):=by
 obtain ⟨x,hx⟩:∃ x:Int,x=if fineB S Nm K n=true then 0 else 1:=⟨_,rfl⟩
 rw [← hx]
 have HQ:=hid hx
 have h16:¬ 16 < (n:Int):=by omega
 have hB0:Below w.heap.size w (w.alloc (schO S (.slice a n cap))):=nwB _ _
 have HX:Hid ((w.alloc (schO S (.slice a n cap))).cell? ⟨w.heap.size,0,none⟩=some (.string S)∧(w.alloc (schO S (.slice a n cap))).cell? ⟨w.heap.size,1,none⟩=some (.slice a n cap)):=(Box2.new 115 w (.string S) (.slice a n cap)).cells
 have HF:Hid (Flds (w.alloc (schO S (.slice a n cap))) a n Nm K):=H.later hB0
 have HS:=hid hS
 clear hx H hS
 go_enter Tryz.func75,Tryz.ntmps75
 go_upto_region 1 with fail
 obtain ⟨W,hW⟩:∃ W,W=(w.alloc (schO S (.slice a n cap))):=⟨_,rfl⟩
 obtain ⟨bs,hbs⟩:∃ bs,bs=w.heap.size:=⟨_,rfl⟩
 rw [← hW,← hbs] at HX
 rw [← hW] at hB0 HF
 rw [← hW,← hbs]
 clear hW hbs
 have x0:=HX.out.1
 have x1:=HX.out.2
 go_wp2_with (first | (go_at_call 77;refine (refName_any S _ HS.out).mono ?_;rintro e wn ⟨rfl,hwn⟩;replace hwn:=hwn.symm;subst hwn))
 clear x0 x1
 go_loopw [3,4] (fun u v wr=>∃ i:Nat,i≤n∧u=.bool (fineB S Nm K i)∧v=.int .i64 i∧Below W.heap.size W wr) (fun _ v _=>n - (intOf v).toNat)
 case atStart=>exact ⟨0,Nat.zero_le _,by simp [fineB,allR,dupB],rfl,Below.refl _ _⟩
 case round =>
  obtain ⟨i,hi,rfl,rfl,hB⟩:=hrel
  have x1:=cell_later HX.out.2 hB
  by_cases hin:i < n
  · have HFl:=HF.out.later hB
    have hB5:Below wr.heap.size wr (wr.alloc (fldO (Nm i) (K i))):=nwB _ _
    have hB6:=bt hB hB5
    have HX6:Hid ((wr.alloc (fldO (Nm i) (K i))).cell? ⟨bs,1,none⟩=some (.slice a n cap)):=cell_later x1 hB5
    have HF6:Hid ((wr.alloc (fldO (Nm i) (K i))).cell? ⟨wr.heap.size,0,none⟩=some (.string (Nm i))):=(Box2.new 112 wr (.string (Nm i)) (.int .i64 (K i))).cells.1
    have HG6:Hid (Flds (wr.alloc (fldO (Nm i) (K i))) a n Nm K):=HFl.later hB5
    obtain ⟨b,off,rfl,hc⟩:=HFl (by omega)
    have f0:=(hc i hin).1.1
    have f1:wr.cell? ⟨b,off+i * 2+1,none⟩=some (.int .i64 (K i)):=(hc i hin).1.2
    have C:Hid (Calls Tryz.prog 77 _ (wr.alloc (fldO (Nm i) (K i))) _):=refName_any (Nm i) (wr.alloc (fldO (Nm i) (K i))) (hc i hin).2
    have hnx:=fineB_next S Nm K i
    clear hc hB5 HFl
    cases hfi:fineB S Nm K i with
    | false =>
      rw [hfi] at hnx
      have HN:Hid (fineB S Nm K (i+1)=false):=hnx
      clear hnx hfi
      go_upto_region 9 with fail
      generalize wr.heap.size=b6 at HF6 ⊢
      generalize wr.alloc (fldO (Nm i) (K i))=W6 at hB6 HX6 HF6 HG6 ⊢
      go_wp2_with fail
      go_loopw [3,6] (fun u v wr=>∃ k:Nat,k≤i∧u=.bool false∧v=.int .i64 k∧Below W6.heap.size W6 wr) (fun _ v _=>i - (intOf v).toNat)
      case atStart=>exact ⟨0,Nat.zero_le _,rfl,rfl,Below.refl _ _⟩
      case round =>
       obtain ⟨k,hk,rfl,rfl,hBi⟩:=hrel
       by_cases hki:k < i
       · go_wp2_with fail
         go_quiet (fail)
         go_wp2
         go_roundw
         case rel=>exact ⟨k+1,by omega,rfl,by go_num,bd hBi _⟩
         case measure=>simp [intOf];omega
       · go_wp2
         go_roundw
         case rel=>exact ⟨i+1,by omega,by rw [HN.out],by go_num,bt hB6 hBi⟩
         case measure=>simp [intOf];omega
    | true =>
      rw [hfi,Bool.true_and] at hnx
      unfold rightF kindB at hnx
      clear hfi
      cases hnm:nameB (Nm i) with
      | false =>
        rw [hnm] at C hnx
        have HN:Hid (fineB S Nm K (i+1)=false):=hnx
        clear hnx hnm
        go_upto_region 9 with (first | (go_at_call 77;refine C.out.mono ?_;rintro e wn ⟨rfl,hwn⟩;replace hwn:=hwn.symm;subst hwn))
        generalize wr.heap.size=b6 at HF6 ⊢
        generalize wr.alloc (fldO (Nm i) (K i))=W6 at hB6 HX6 HF6 HG6 ⊢
        go_wp2_with fail
        go_loopw [3,6] (fun u v wr=>∃ k:Nat,k≤i∧u=.bool false∧v=.int .i64 k∧Below W6.heap.size W6 wr) (fun _ v _=>i - (intOf v).toNat)
        case atStart=>exact ⟨0,Nat.zero_le _,rfl,rfl,Below.refl _ _⟩
        case round =>
         obtain ⟨k,hk,rfl,rfl,hBi⟩:=hrel
         by_cases hki:k < i
         · go_wp2_with fail
           go_quiet (fail)
           go_wp2
           go_roundw
           case rel=>exact ⟨k+1,by omega,rfl,by go_num,bd hBi _⟩
           case measure=>simp [intOf];omega
         · go_wp2
           go_roundw
           case rel=>exact ⟨i+1,by omega,by rw [HN.out],by go_num,bt hB6 hBi⟩
           case measure=>simp [intOf];omega
      | true =>
        rw [hnm,Bool.true_and] at hnx
        rw [hnm] at C
        clear hnm
        by_cases k1:1≤K i
        · by_cases k3:K i≤3
          · rw [decide_eq_true k1,decide_eq_true k3] at hnx
            simp only [Bool.true_and] at hnx
            have HN:Hid (fineB S Nm K (i+1)=!seenB Nm (Nm i) i):=hnx
            clear hnx
            go_upto_region 9 with (first | (go_at_call 77;refine C.out.mono ?_;rintro e wn ⟨rfl,hwn⟩;replace hwn:=hwn.symm;subst hwn))
            generalize wr.heap.size=b6 at HF6 ⊢
            generalize wr.alloc (fldO (Nm i) (K i))=W6 at hB6 HX6 HF6 HG6 ⊢
            go_wp2_with fail
            go_loopw [3,6] (fun u v wr=>∃ k:Nat,k≤i∧u=.bool (!seenB Nm (Nm i) k)∧v=.int .i64 k∧Below W6.heap.size W6 wr) (fun _ v _=>i - (intOf v).toNat)
            case atStart=>exact ⟨0,Nat.zero_le _,rfl,rfl,Below.refl _ _⟩
            case round =>
             obtain ⟨k,hk,rfl,rfl,hBi⟩:=hrel
             by_cases hki:k < i
             · have x1:=cell_later HX6.out hBi
               have y0:=cell_later HF6.out hBi
               obtain ⟨b2,off2,e2,hc⟩:=(HG6.out.later hBi) (by omega)
               cases e2
               have f0:=(hc k (by omega)).1.1
               have hkn:k < n:=by omega
               clear hc
               cases hse:seenB Nm (Nm i) k with
               | true =>
                 have HNx:Hid (seenB Nm (Nm i) (k+1)=true):=by show seenB Nm (Nm i) (k+1)=true;simp only [seenB];rw [hse];rfl
                 clear hse
                 simp only [Bool.not_true]
                 go_wp2_with fail
                 go_quiet (fail)
                 go_wp2
                 go_roundw
                 case rel=>exact ⟨k+1,by omega,by rw [HNx.out];rfl,by go_num,bd hBi _⟩
                 case measure=>simp [intOf];omega
               | false =>
                 by_cases hs:Nm k=Nm i
                 · have s1:=str_yes hs
                   have HNx:Hid (seenB Nm (Nm i) (k+1)=true):=by show seenB Nm (Nm i) (k+1)=true;simp only [seenB];rw [hse];simp [hs]
                   clear hse hs
                   simp only [Bool.not_false]
                   go_wp2_with fail
                   go_quiet (fail)
                   go_wp2
                   go_roundw
                   case rel=>exact ⟨k+1,by omega,by rw [HNx.out];rfl,by go_num,bd hBi _⟩
                   case measure=>simp [intOf];omega
                 · have s1:=str_not hs
                   have HNx:Hid (seenB Nm (Nm i) (k+1)=false):=by show seenB Nm (Nm i) (k+1)=false;simp only [seenB];rw [hse];simp [hs]
                   clear hse hs
                   simp only [Bool.not_false]
                   go_wp2_with fail
                   go_quiet (fail)
                   go_wp2
                   go_roundw
                   case rel=>exact ⟨k+1,by omega,by rw [HNx.out];rfl,by go_num,bd hBi _⟩
                   case measure=>simp [intOf];omega
             · obtain rfl:k=i:=by omega
               go_wp2
               go_roundw
               case rel=>exact ⟨k+1,by omega,by rw [HN.out],by go_num,bt hB6 hBi⟩
               case measure=>simp [intOf];omega
          · rw [decide_eq_false k3] at hnx
            simp only [Bool.and_false,Bool.false_and] at hnx
            have HN:Hid (fineB S Nm K (i+1)=false):=hnx
            clear hnx
            go_upto_region 9 with (first | (go_at_call 77;refine C.out.mono ?_;rintro e wn ⟨rfl,hwn⟩;replace hwn:=hwn.symm;subst hwn))
            generalize wr.heap.size=b6 at HF6 ⊢
            generalize wr.alloc (fldO (Nm i) (K i))=W6 at hB6 HX6 HF6 HG6 ⊢
            go_wp2_with fail
            go_loopw [3,6] (fun u v wr=>∃ k:Nat,k≤i∧u=.bool false∧v=.int .i64 k∧Below W6.heap.size W6 wr) (fun _ v _=>i - (intOf v).toNat)
            case atStart=>exact ⟨0,Nat.zero_le _,congrArg Value.bool (decide_eq_false (by omega)),rfl,Below.refl _ _⟩
            case round =>
             obtain ⟨k,hk,rfl,rfl,hBi⟩:=hrel
             by_cases hki:k < i
             · go_wp2_with fail
               go_quiet (fail)
               go_wp2
               go_roundw
               case rel=>exact ⟨k+1,by omega,rfl,by go_num,bd hBi _⟩
               case measure=>simp [intOf];omega
             · go_wp2
               go_roundw
               case rel=>exact ⟨i+1,by omega,by rw [HN.out],by go_num,bt hB6 hBi⟩
               case measure=>simp [intOf];omega
        · rw [decide_eq_false k1] at hnx
          simp only [Bool.false_and] at hnx
          have HN:Hid (fineB S Nm K (i+1)=false):=hnx
          clear hnx
          go_upto_region 9 with (first | (go_at_call 77;refine C.out.mono ?_;rintro e wn ⟨rfl,hwn⟩;replace hwn:=hwn.symm;subst hwn))
          generalize wr.heap.size=b6 at HF6 ⊢
          generalize wr.alloc (fldO (Nm i) (K i))=W6 at hB6 HX6 HF6 HG6 ⊢
          go_wp2_with fail
          go_loopw [3,6] (fun u v wr=>∃ k:Nat,k≤i∧u=.bool false∧v=.int .i64 k∧Below W6.heap.size W6 wr) (fun _ v _=>i - (intOf v).toNat)
          case atStart=>exact ⟨0,Nat.zero_le _,rfl,rfl,Below.refl _ _⟩
          case round =>
           obtain ⟨k,hk,rfl,rfl,hBi⟩:=hrel
           by_cases hki:k < i
           · go_wp2_with fail
             go_quiet (fail)
             go_wp2
             go_roundw
             case rel=>exact ⟨k+1,by omega,rfl,by go_num,bd hBi _⟩
             case measure=>simp [intOf];omega
           · go_wp2
             go_roundw
             case rel=>exact ⟨i+1,by omega,by rw [HN.out],by go_num,bt hB6 hBi⟩
             case measure=>simp [intOf];omega
  · obtain rfl:i=n:=by omega
    cases hfi:fineB S Nm K i with
    | true =>
      have HA:=hid hfi
      clear hfi
      go_wp2
      go_ret
      exact ⟨ret_int (by rw [HQ.out,HA.out];rfl),bt hB0 hB⟩
    | false =>
      have HA:=hid hfi
      clear hfi
      go_wp2
      go_ret
      exact ⟨ret_int (by rw [HQ.out,HA.out];rfl),bt hB0 hB⟩
theorem refCheck_any (S:ByteArray) (a:Option Addr) (n cap:Nat) (Nm:Nat→ByteArray) (K:Nat→Int) (w:World) (H:Flds w a n Nm K) (hS:S.size≤maxLen) :
 Calls Tryz.prog 75 #[schV S (.slice a n cap)] w (RV (.int .i64 (chkZ S n Nm K)) w):=by
 by_cases hn:n≤16
 · rw [chkZ_fine S n Nm K hn]
   exact refCheck_few S a n cap Nm K w H hn hS
 · have e:chkZ S n Nm K=2:=by unfold chkZ;rw [if_pos (by omega)]
   rw [e]
   exact refCheck_long S a n cap w hn
theorem dupB_yes (Nm:Nat→ByteArray):∀ n,(∃ i j,i < j∧j < n∧Nm i=Nm j)→dupB Nm n=true
 | 0,h=>by obtain ⟨i,j,_,h,_⟩:=h;omega
 | n+1,h=>by
   obtain ⟨i,j,h1,h2,h3⟩:=h
   simp only [dupB,Bool.or_eq_true]
   by_cases e:j=n
   · subst e
     exact .inr ((seenB_iff Nm (Nm j) j).2 ⟨i,h1,h3⟩)
   · exact .inl (dupB_yes Nm n ⟨i,j,h1,by omega,h3⟩)
theorem dupB_next (Nm:Nat→ByteArray) (i:Nat) (h:dupB Nm i=false) (h2:∀ j,j < i→¬ Nm j=Nm i):dupB Nm (i+1)=false:=by
 simp only [dupB,h,Bool.false_or]
 cases e:seenB Nm (Nm i) i with
 | false=>rfl
 | true =>
   obtain ⟨j,h3,h4⟩:=(seenB_iff Nm (Nm i) i).1 e
   exact absurd h4 (h2 j h3)
theorem refBook_long (a:Option Addr) (n cap:Nat) (w:World) (hn:¬ n≤16) :
 Calls Tryz.prog 24 #[.slice a n cap] w (RV (.int .i64 2) w):=by
 have h16:16 < (n:Int):=by omega
 go_enter Tryz.func24,Tryz.ntmps24
 go_wp2
 go_ret
 exact ⟨rfl,Below.refl _ _⟩
theorem refBook_few (a:Option Addr) (n cap:Nat) (Q:Nat→Sch) (w:World) (H:Schs w a n Q) (hn:n≤16) :
 Calls Tryz.prog 24 #[.slice a n cap] w (RV (.int .i64 (if chks Q n=0 then (if dupB (fun j=>(Q j).nm) n=true then 4 else 0) else chks Q n)) w):=by
 obtain ⟨x,hx⟩:∃ x:Int,x=if chks Q n=0 then (if dupB (fun j=>(Q j).nm) n=true then 4 else 0) else chks Q n:=⟨_,rfl⟩
 rw [← hx]
 have HQ:=hid hx
 have h16:¬ 16 < (n:Int):=by omega
 have HF:=hid H
 clear hx H
 go_enter Tryz.func24,Tryz.ntmps24
 go_wp2
 go_loopw [3] (fun v wr=>∃ k:Nat,k≤n∧v=.int .i64 k∧Hid (chks Q k=0)∧Below w.heap.size w wr) (fun v _=>n - (intOf v).toNat)
 case atStart=>exact ⟨0,Nat.zero_le _,rfl,rfl,Below.refl _ _⟩
 case round =>
  obtain ⟨k,hk,rfl,HA,hB⟩:=hrel
  by_cases hkn:k < n
  · have HG:=HF.out.later hB
    obtain ⟨b,off,rfl,hc⟩:=HG.1 (by omega)
    have f0:=(hc k hkn).1.1
    have f1:=(hc k hkn).1.2
    obtain ⟨y,hy⟩:∃ y,y=(Q k).chk:=⟨_,rfl⟩
    have C:Hid (Calls Tryz.prog 75 #[schV (Q k).nm (Q k).v] _ _):=refCheck_any (Q k).nm (Q k).a (Q k).l (Q k).c (Q k).fn (Q k).fk wr (HG.2 k hkn).1 (hc k hkn).2
    have HY:=hid hy
    rw [show chkZ (Q k).nm (Q k).l (Q k).fn (Q k).fk=y from hy.symm] at C
    clear hc HG hy
    by_cases hy0:y=0
    · subst hy0
      go_wp2_with (first | (go_at_call 75;refine C.out.mono ?_;rintro e w5 ⟨rfl,hB5⟩))
      go_roundw
      case rel=>exact ⟨k+1,by omega,by go_num,by show chks Q (k+1)=0;simp only [chks];rw [if_pos HA.out];exact HY.out.symm,bt hB hB5⟩
      case measure=>simp [intOf];omega
    · have hy1:(y == 0)=false:=by simpa using hy0
      go_wp2_with (first | (go_at_call 75;refine C.out.mono ?_;rintro e w5 ⟨rfl,hB5⟩))
      try rw [Exit.noGoto_ret]
      go_ret
      refine ⟨ret_int ?_,bt hB hB5⟩
      have e1:=chks_stop Q k HA.out (by rw [← HY.out];exact hy0) n hkn
      rw [HQ.out,e1,← HY.out,if_neg hy0]
  · obtain rfl:k=n:=by omega
    generalize wr=wo at *
    go_wp2
    go_loopw [5] (fun v wr=>∃ i:Nat,i≤k∧v=.int .i64 i∧Hid (dupB (fun j=>(Q j).nm) i=false)∧Below wo.heap.size wo wr) (fun v _=>k - (intOf v).toNat)
    case atStart=>exact ⟨0,Nat.zero_le _,rfl,rfl,Below.refl _ _⟩
    case round =>
     obtain ⟨i,hi,rfl,HD,hB2⟩:=hrel
     by_cases hik:i < k
     · generalize wr=wp at *
       go_wp2_with fail
       go_loopw [6] (fun v wr=>∃ j:Nat,j≤i∧v=.int .i64 j∧Hid (∀ q,q < j→¬ (Q q).nm=(Q i).nm)∧Below wp.heap.size wp wr) (fun v _=>i - (intOf v).toNat)
       case atStart=>exact ⟨0,Nat.zero_le _,rfl,fun q hq=>by omega,Below.refl _ _⟩
       case round =>
        obtain ⟨j,hj,rfl,HJ,hB3⟩:=hrel
        have hB4:=bt hB (bt hB2 hB3)
        by_cases hji:j < i
        · obtain ⟨b,off,rfl,hc⟩:=(HF.out.later hB4).1 (by omega)
          have f0:=(hc j (by omega)).1.1
          have f1:=(hc i hik).1.1
          have hjk:j < k:=by omega
          clear hc
          by_cases hs:(Q j).nm=(Q i).nm
          · have s1:=str_yes hs
            have HN:Hid (dupB (fun j=>(Q j).nm) k=true):=dupB_yes _ k ⟨j,i,hji,hik,hs⟩
            clear hs
            go_wp2_with fail
            go_quiet (fail)
            go_wp2
            repeat rw [Exit.noGoto_ret]
            go_ret
            exact ⟨ret_int (by rw [HQ.out,if_pos HA.out,if_pos HN.out]),bd hB4 _⟩
          · have s1:=str_not hs
            have HJ2:Hid (∀ q,q < j+1→¬ (Q q).nm=(Q i).nm):=fun q hq=>if e:q=j then e ▸ hs else HJ.out q (by omega)
            clear hs
            go_wp2_with fail
            go_quiet (fail)
            go_wp2
            go_roundw
            case rel=>exact ⟨j+1,by omega,by go_num,HJ2,bd hB3 _⟩
            case measure=>simp [intOf];omega
        · obtain rfl:j=i:=by omega
          go_wp2
          go_roundw
          case rel=>exact ⟨j+1,by omega,by go_num,dupB_next _ j HD.out HJ.out,bt hB2 hB3⟩
          case measure=>simp [intOf];omega
     · obtain rfl:i=k:=by omega
       go_wp2
       go_ret
       exact ⟨ret_int (by rw [HQ.out,if_pos HA.out,HD.out];rfl),bt hB hB2⟩
theorem refBook_any (a:Option Addr) (n cap:Nat) (Q:Nat→Sch) (w:World) (H:Schs w a n Q) :
 Calls Tryz.prog 24 #[.slice a n cap] w (RV (.int .i64 (bookZ n Q)) w):=by
 unfold bookZ
 by_cases hn:n≤16
 · rw [if_neg (by omega)]
   exact refBook_few a n cap Q w H hn
 · rw [if_pos (by omega)]
   exact refBook_long a n cap w hn
open Go.ChangeShapes Go.WideShapes
section
variable {H:Type} {enc:TypeId × Value→H} {w:World} {base:Nat} {spare:Nat→Bool} {held:Bool}
theorem fld_under:∃ f0 f1:Field,Tryz.prog.underlying 112=some (.struct #[f0,f1])∧f0.offset=0∧f1.offset=1∧f0.type=9∧f1.type=3:=⟨_,_,Tryz.underlying112,rfl,rfl,rfl,rfl⟩
theorem sch_under:∃ f0 f1:Field,Tryz.prog.underlying 115=some (.struct #[f0,f1])∧f0.offset=0∧f1.offset=1∧f0.type=9∧f1.type=113:=⟨_,_,Tryz.underlying115,rfl,rfl,rfl,rfl⟩
theorem cells_f:Tryz.prog.cellsOf 112=2:=by kernel_rfl
theorem cells_h:Tryz.prog.cellsOf 115=2:=by kernel_rfl
theorem cells_l:Tryz.prog.cellsOf 113=1:=by kernel_rfl
theorem trod_fld {fuel:Nat} {cs:List Value} {x:DataW H × List MemPlace} (h:DataW.trod enc Tryz.prog w base spare held fuel 112 cs=some x) :
 ∃ s k,cs=[.string s,.int .i64 k]∧s.size≤maxLen:=by
 obtain ⟨f0,f1,hu,o0,o1,t0,t1⟩:=fld_under
 obtain ⟨y0,y1,m,rfl,hl,g0,g1⟩:=trod_struct2 hu h
 rw [cells_f] at hl
 rw [o0,t0,cells_s] at g0
 rw [o1,t1,cells_i] at g1
 match cs,hl with
 | [c0,c1],_ =>
   obtain ⟨s,e0,rfl,w0⟩:=DataW.trod_string Tryz.underlying9 g0
   obtain ⟨k,e1,rfl,_⟩:=DataW.trod_int Tryz.underlying3 g1
   simp at e0 e1
   subst e0 e1
   exact ⟨s,k,rfl,w0⟩
theorem addr_two (b off i:Nat):(⟨b,off,none⟩:Addr).add i=⟨b,off+i,none⟩:=by unfold Addr.add;split <;> simp_all
theorem trod_flds {fuel:Nat} {cs:List Value} {x:DataW H × List MemPlace} (h:DataW.trod enc Tryz.prog w base spare held fuel 113 cs=some x) :
 ∃ a len cap Nm K,cs=[.slice a len cap]∧Flds w a len Nm K∧len≤9223372036854775807:=by
 rcases Deep.open_slice Tryz.underlying113 h with ⟨rfl,_⟩ | ⟨x,len,cap,m,n,D,Pl,rfl,_,hl,hcm,hmm,_,hx⟩
 · exact ⟨none,0,0,fun _=>⟨#[]⟩,fun _=>0,rfl,fun h=>by omega,by omega⟩
 · have hlm:len≤m:=by rw [hmm];split <;> omega
   have each:∀ i,i < m→∃ q:ByteArray × Int,w.cell? (x.add (i * 2))=some (.string q.1)∧w.cell? (x.add (i * 2+1))=some (.int .i64 q.2)∧q.1.size≤maxLen:=by
    intro i hi
    obtain ⟨cs',h1,h2⟩:=hx i hi
    rw [cells_f] at h1
    obtain ⟨_,hlen,hcell⟩:=World.cells?_some h1
    obtain ⟨s,k,rfl,w0⟩:=trod_fld h2
    have e0:=hcell 0 (by omega)
    have e1:=hcell 1 (by omega)
    rw [Deep.add_add] at e0 e1
    exact ⟨(s,k),by simpa using e0,by simpa using e1,w0⟩
   obtain ⟨q,hq⟩:=Deep.choose_lt each
   refine ⟨some x,len,cap,fun i=>(q i).1,fun i=>(q i).2,rfl,fun h0=>?_,by unfold maxLen at hcm;omega⟩
   obtain ⟨b,off,spot⟩:=x
   have hspot:spot=none:=by simpa [Addr.add] using World.cell?_spot (hq 0 (by omega)).1
   subst hspot
   refine ⟨b,off,rfl,fun j hj=>?_⟩
   obtain ⟨c0,c1,c2⟩:=hq j (by omega)
   rw [addr_two] at c0 c1
   exact ⟨⟨c0,by rw [Nat.add_assoc];exact c1⟩,c2⟩
def IsSch (w:World) (x:Sch):Prop:=Flds w x.a x.l x.fn x.fk∧x.l≤9223372036854775807∧x.nm.size≤maxLen
theorem IsSch.later {w w':World} {x:Sch} (h:IsSch w x) (hB:Below w.heap.size w w'):IsSch w' x:=⟨h.1.later hB,h.2⟩
theorem trod_sch {fuel:Nat} {cs:List Value} {x:DataW H × List MemPlace} (h:DataW.trod enc Tryz.prog w base spare held fuel 115 cs=some x) :
 ∃ q:Sch,cs=[.string q.nm,q.v]∧IsSch w q:=by
 obtain ⟨f0,f1,hu,o0,o1,t0,t1⟩:=sch_under
 obtain ⟨y0,y1,m,rfl,hl,g0,g1⟩:=trod_struct2 hu h
 rw [cells_h] at hl
 rw [o0,t0,cells_s] at g0
 rw [o1,t1,cells_l] at g1
 match cs,hl with
 | [c0,c1],_ =>
   obtain ⟨s,e0,rfl,w0⟩:=DataW.trod_string Tryz.underlying9 g0
   obtain ⟨a,len,cap,Nm,K,e1,hf,hl⟩:=trod_flds g1
   simp at e0 e1
   subst e0 e1
   exact ⟨⟨s,a,len,cap,Nm,K⟩,rfl,hf,hl,w0⟩
def sch0:Sch:=⟨⟨#[]⟩,none,0,0,fun _=>⟨#[]⟩,fun _=>0⟩
theorem open_schs {a:Option Addr} {len cap:Nat} {d:DataW H} {p:List MemPlace} (h:DataW.Trod enc Tryz.prog w base spare held 22 (.slice a len cap) d p):∃ Q:Nat→Sch,Schs w a len Q∧len≤9223372036854775807:=by
 obtain ⟨fuel,hf⟩:=h
 rcases Deep.open_slice Tryz.underlying22 hf with ⟨hcs,_⟩ | ⟨x,l,c,m,n,D,Pl,hcs,_,hl,hcm,hmm,_,hx⟩
 · simp [Value.cells] at hcs
   obtain ⟨rfl,rfl,rfl⟩:=hcs
   exact ⟨fun _=>sch0,⟨fun h=>by omega,fun j hj=>by omega⟩,by omega⟩
 · simp [Value.cells] at hcs
   obtain ⟨rfl,rfl,rfl⟩:=hcs
   have hlm:len≤m:=by rw [hmm];split <;> omega
   have each:∀ i,i < m→∃ q:Sch,w.cell? (x.add (i * 2))=some (.string q.nm)∧w.cell? (x.add (i * 2+1))=some q.v∧IsSch w q:=by
    intro i hi
    obtain ⟨cs',h1,h2⟩:=hx i hi
    rw [cells_h] at h1
    obtain ⟨_,hlen,hcell⟩:=World.cells?_some h1
    obtain ⟨q,rfl,hq⟩:=trod_sch h2
    have e0:=hcell 0 (by omega)
    have e1:=hcell 1 (by omega)
    rw [Deep.add_add] at e0 e1
    exact ⟨q,by simpa using e0,by simpa using e1,hq⟩
   have:Inhabited Sch:=⟨sch0⟩
   obtain ⟨q,hq⟩:=Deep.choose_lt each
   refine ⟨q,⟨fun h0=>?_,fun j hj=>⟨(hq j (by omega)).2.2.1,(hq j (by omega)).2.2.2.1⟩⟩,by unfold maxLen at hcm;omega⟩
   obtain ⟨b,off,spot⟩:=x
   have hspot:spot=none:=by simpa [Addr.add] using World.cell?_spot (hq 0 (by omega)).1
   subst hspot
   refine ⟨b,off,rfl,fun j hj=>?_⟩
   obtain ⟨c0,c1,c2⟩:=hq j (by omega)
   rw [addr_two] at c0 c1
   exact ⟨⟨c0,by rw [Nat.add_assoc];exact c1⟩,c2.2.2⟩
end
end Go.Proofs.YtkfpgkohkhhlhaaGreatDoor
