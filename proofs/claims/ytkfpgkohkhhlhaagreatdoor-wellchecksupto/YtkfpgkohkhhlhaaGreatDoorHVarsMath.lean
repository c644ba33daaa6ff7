/- Texts that the last one stands on. -/
import Derived.Test.YtkfpgkohkhhlhaaGreatDoorHExprCheck
set_option maxRecDepth 100000
set_option maxHeartbeats 4000000
namespace Go.Proofs.YtkfpgkohkhhlhaaGreatDoor
open Go.RowKit
theorem intoAll_snoc (s:ByteArray):∀ (m l:List ByteArray),intoAll l (m ++ [s])=intoL s (intoAll l m)
 | [],l=>rfl
 | a :: m,l=>by
   show intoAll (intoL a l) (m ++ [s])=intoL s (intoAll (intoL a l) m)
   exact intoAll_snoc s m _
theorem into_len (s:ByteArray):∀ l:List ByteArray,(intoL s l).length≤l.length+1
 | []=>by simp [intoL]
 | a :: l=>by
   have:=into_len s l
   simp only [intoL]
   split
   · simp
   · split
     · simp
     · simp;omega
theorem intoAll_len:∀ (m l:List ByteArray),(intoAll l m).length≤l.length+m.length
 | [],l=>by simp [intoAll]
 | a :: m,l=>by
   have h1:=intoAll_len m (intoL a l)
   have h2:=into_len a l
   simp only [intoAll,List.length_cons]
   omega
theorem accN_len (l:List ByteArray) (f:Nat→List ByteArray) (g:Nat→Nat):∀ n,(∀ i,i < n→(f i).length≤g i)→(accN l f n).length≤l.length+sumN g n
 | 0,_=>by simp [accN,sumN]
 | n+1,h=>by
   have h1:=accN_len l f g n fun i hi=>h i (by omega)
   have h2:=h n (by omega)
   have h3:=intoAll_len (f n) (accN l f n)
   simp only [accN,sumN]
   omega
theorem vars_len:∀ x:X,(varsX x).length≤x.size:=by
 refine X.ind fun x ih=>?_
 rw [varsX_eq,x.size_eq]
 have h:=accN_len (if x.k=2 then [x.s] else []) (fun i=>varsX (x.c i)) (fun i=>(x.c i).size) x.n ih
 have h1:(if x.k=2 then [x.s] else ([]:List ByteArray)).length≤1:=by split <;> simp
 omega
theorem take_snoc (l:List ByteArray) (k:Nat) (h:k < l.length):l.take (k+1)=l.take k ++ [atS l k]:=by
 rw [List.take_add_one]
 simp [atS,h]
theorem cnt_small:∀ n:Nat,n≤1048576→cnt n=n
 | 0,_=>rfl
 | n+1,h=>by
   simp only [cnt]
   rw [cnt_small n (by omega),wrap64]
   omega
theorem refRight_none (k n:Int) (s:ByteArray) (w:World) (h0:(k == 0)=false) (h1:(k == 1)=false) (h2:(k == 2)=false) (h3:(k == 3)=false):Calls Tryz.prog 157 #[valV k n s] w (RV (.bool false) w):=by
 go_enter Tryz.func157,Tryz.ntmps157
 go_wp2
 go_ret
 exact ⟨rfl,nwB _ _⟩
theorem refRight_null0  (w:World):Calls Tryz.prog 157 #[valV 0 0 ⟨#[]⟩] w (RV (.bool true) w):=by
 go_enter Tryz.func157,Tryz.ntmps157
 go_wp2
 go_ret
 exact ⟨rfl,nwB _ _⟩
theorem refRight_null1 (n:Int) (s:ByteArray) (w:World) (hn:(n == 0)=false):Calls Tryz.prog 157 #[valV 0 n s] w (RV (.bool false) w):=by
 go_enter Tryz.func157,Tryz.ntmps157
 go_wp2
 go_ret
 exact ⟨rfl,nwB _ _⟩
theorem refRight_null2 (s:ByteArray) (w:World) (hs:(s.toList == [])=false):Calls Tryz.prog 157 #[valV 0 0 s] w (RV (.bool false) w):=by
 go_enter Tryz.func157,Tryz.ntmps157
 go_wp2
 go_ret
 exact ⟨rfl,nwB _ _⟩
theorem refRight_bool0  (w:World):Calls Tryz.prog 157 #[valV 1 0 ⟨#[]⟩] w (RV (.bool true) w):=by
 go_enter Tryz.func157,Tryz.ntmps157
 go_wp2
 go_ret
 exact ⟨rfl,nwB _ _⟩
theorem refRight_bool1  (w:World):Calls Tryz.prog 157 #[valV 1 1 ⟨#[]⟩] w (RV (.bool true) w):=by
 go_enter Tryz.func157,Tryz.ntmps157
 go_wp2
 go_ret
 exact ⟨rfl,nwB _ _⟩
theorem refRight_bool2 (s:ByteArray) (w:World) (hs:(s.toList == [])=false):Calls Tryz.prog 157 #[valV 1 0 s] w (RV (.bool false) w):=by
 go_enter Tryz.func157,Tryz.ntmps157
 go_wp2
 go_ret
 exact ⟨rfl,nwB _ _⟩
theorem refRight_bool3 (s:ByteArray) (w:World) (hs:(s.toList == [])=false):Calls Tryz.prog 157 #[valV 1 1 s] w (RV (.bool false) w):=by
 go_enter Tryz.func157,Tryz.ntmps157
 go_wp2
 go_ret
 exact ⟨rfl,nwB _ _⟩
theorem refRight_bool4 (n:Int) (s:ByteArray) (w:World) (hn:(n == 0)=false) (h1:(n == 1)=false):Calls Tryz.prog 157 #[valV 1 n s] w (RV (.bool false) w):=by
 go_enter Tryz.func157,Tryz.ntmps157
 go_wp2
 go_ret
 exact ⟨rfl,nwB _ _⟩
theorem refRight_int0 (n:Int) (w:World):Calls Tryz.prog 157 #[valV 2 n ⟨#[]⟩] w (RV (.bool true) w):=by
 go_enter Tryz.func157,Tryz.ntmps157
 go_wp2
 go_ret
 exact ⟨rfl,nwB _ _⟩
theorem refRight_int1 (n:Int) (s:ByteArray) (w:World) (hs:(s.toList == [])=false):Calls Tryz.prog 157 #[valV 2 n s] w (RV (.bool false) w):=by
 go_enter Tryz.func157,Tryz.ntmps157
 go_wp2
 go_ret
 exact ⟨rfl,nwB _ _⟩
theorem refRight_text0 (s:ByteArray) (w:World) (hl:(s.size:Int)≤256):Calls Tryz.prog 157 #[valV 3 0 s] w (RV (.bool true) w):=by
 go_enter Tryz.func157,Tryz.ntmps157
 go_wp2
 go_ret
 exact ⟨rfl,nwB _ _⟩
theorem refRight_text1 (n:Int) (s:ByteArray) (w:World) (hn:(n == 0)=false):Calls Tryz.prog 157 #[valV 3 n s] w (RV (.bool false) w):=by
 go_enter Tryz.func157,Tryz.ntmps157
 go_wp2
 go_ret
 exact ⟨rfl,nwB _ _⟩
theorem refRight_text2 (s:ByteArray) (w:World) (hl:¬ (s.size:Int)≤256):Calls Tryz.prog 157 #[valV 3 0 s] w (RV (.bool false) w):=by
 go_enter Tryz.func157,Tryz.ntmps157
 go_wp2
 go_ret
 exact ⟨rfl,nwB _ _⟩
theorem refRight_any (k n:Int) (s:ByteArray) (w:World):Calls Tryz.prog 157 #[valV k n s] w (RV (.bool (rightB k n s)) w):=by
 unfold rightB
 by_cases h0:k=0
 · subst h0
   rw [if_pos rfl]
   by_cases hn:n=0
   · subst hn
     cases hs:s.toList == [] with
     | true=>obtain rfl:=empty_str hs;simpa using refRight_null0 w
     | false=>simpa using refRight_null2 s w hs
   · simpa [hn] using refRight_null1 n s w (by simpa using hn)
 · rw [if_neg h0]
   by_cases h1:k=1
   · subst h1
     rw [if_pos rfl]
     by_cases hn:n=0
     · subst hn
       cases hs:s.toList == [] with
       | true=>obtain rfl:=empty_str hs;simpa using refRight_bool0 w
       | false=>simpa using refRight_bool2 s w hs
     · by_cases hm:n=1
       · subst hm
         cases hs:s.toList == [] with
         | true=>obtain rfl:=empty_str hs;simpa using refRight_bool1 w
         | false=>simpa using refRight_bool3 s w hs
       · simpa [hn,hm] using refRight_bool4 n s w (by simpa using hn) (by simpa using hm)
   · rw [if_neg h1]
     by_cases h2:k=2
     · subst h2
       rw [if_pos rfl]
       cases hs:s.toList == [] with
       | true=>obtain rfl:=empty_str hs;exact refRight_int0 n w
       | false=>exact refRight_int1 n s w hs
     · rw [if_neg h2]
       by_cases h3:k=3
       · subst h3
         rw [if_pos rfl]
         by_cases hn:n=0
         · subst hn
           by_cases hl:(s.size:Int)≤256
           · have e:decide (s.size≤256)=true:=decide_eq_true (by omega)
             rw [e]
             exact refRight_text0 s w hl
           · have e:decide (s.size≤256)=false:=decide_eq_false (by omega)
             rw [e]
             exact refRight_text2 s w hl
         · rw [decide_eq_false hn];exact refRight_text1 n s w (by simpa using hn)
       · rw [if_neg h3]
         exact refRight_none k n s w (by simpa using h0) (by simpa using h1) (by simpa using h2) (by simpa using h3)
def digitB (c:Int):Bool:=decide (48≤c∧c≤57)
def signB (c:Int):Bool:=smallB c || laterB c
theorem refLower_any (r:Int) (w:World):Calls Tryz.prog 129 #[.int .u8 r] w fun e w'=>e=.returned (.bool (smallB r))∧w'=w:=by
 go_enter Tryz.func129,Tryz.ntmps129
 go_wp2
 all_goals go_ret
 all_goals refine ⟨ret_bool ?_,rfl⟩
 all_goals (unfold smallB;rw [Bool.eq_iff_iff];simp <;> omega)
theorem refDigit_any (r:Int) (w:World):Calls Tryz.prog 156 #[.int .u8 r] w fun e w'=>e=.returned (.bool (digitB r))∧w'=w:=by
 go_enter Tryz.func156,Tryz.ntmps156
 go_wp2
 all_goals go_ret
 all_goals refine ⟨ret_bool ?_,rfl⟩
 all_goals (unfold digitB;rw [Bool.eq_iff_iff];simp <;> omega)
theorem refSign_any (r:Int) (w:World):Calls Tryz.prog 128 #[.int .u8 r] w fun e w'=>e=.returned (.bool (signB r))∧w'=w:=by
 obtain ⟨S,hS⟩:∃ S,S=smallB r:=⟨_,rfl⟩
 obtain ⟨D,hD⟩:∃ D,D=digitB r:=⟨_,rfl⟩
 have hl:∀ w',Calls Tryz.prog 129 #[.int .u8 r] w' fun e w''=>e=.returned (.bool S)∧w''=w':=fun w'=>by rw [hS];exact refLower_any r w'
 have hd:∀ w',Calls Tryz.prog 156 #[.int .u8 r] w' fun e w''=>e=.returned (.bool D)∧w''=w':=fun w'=>by rw [hD];exact refDigit_any r w'
 have e:signB r=(S || D || decide (r=95)):=by rw [hS,hD];unfold signB laterB digitB smallB;rw [Bool.eq_iff_iff];simp only [Bool.or_eq_true,decide_eq_true_eq];omega
 rw [e]
 have HL:=hid hl
 have HD:=hid hd
 clear hl hd hS hD e
 cases S <;> cases D
 all_goals (go_enter Tryz.func128,Tryz.ntmps128)
 all_goals (go_wp2_with (first | (go_at_call 129;refine (HL.out _).mono ?_;rintro e w1 ⟨rfl,hw1⟩;replace hw1:=hw1.symm;subst hw1) | (go_at_call 156;refine (HD.out _).mono ?_;rintro e w1 ⟨rfl,hw1⟩;replace hw1:=hw1.symm;subst hw1)))
 all_goals go_ret
 all_goals refine ⟨ret_bool ?_,rfl⟩
 all_goals (first | rfl | (rw [Bool.eq_iff_iff];simp))
theorem sign_ok {c:Int} {j:Nat} (h:okB c j=true):signB c=true:=by
 unfold okB at h;unfold signB;simp only [Bool.or_eq_true,Bool.and_eq_true] at h ⊢
 exact h.imp id And.left
theorem sign_not {c:Int} (j:Nat) (h:signB c=false):okB c j=false:=by
 cases hk:okB c j with
 | false=>rfl
 | true=>rw [sign_ok hk] at h;cases h
theorem ok_sign {c:Int} {j:Nat} (hj:j ≠ 0) (h:signB c=true):okB c j=true:=by
 unfold okB;unfold signB at h;simp only [Bool.or_eq_true,Bool.and_eq_true,decide_eq_true_eq] at h ⊢
 exact h.imp id fun k=>⟨k,hj⟩
theorem refName_any (s:ByteArray) (w:World) (hs:s.size≤maxLen):Calls Tryz.prog 77 #[.string s] w fun e w'=>e=.returned (.bool (nameB s))∧w'=w:=by
 unfold maxLen at hs
 obtain ⟨B,hB⟩:∃ B,B=nameB s:=⟨_,rfl⟩
 rw [← hB]
 have HB:=hid hB
 clear hB
 go_enter Tryz.func77,Tryz.ntmps77
 go_wp2
 go_loop [3] (fun i=>∃ k:Nat,k≤s.size∧i=.int .i64 k∧Hid (∀ j,j < k→signB (byteAt s j)=true)) (fun i=>s.size - (intOf i).toNat)
 case atStart=>exact ⟨0,Nat.zero_le _,rfl,fun j hj=>by omega⟩
 case round =>
  obtain ⟨k,hk,rfl,HP⟩:=hrel
  by_cases hlt:k < s.size
  · have hlt':(k:Int) < (s.size:Int):=by omega
    have hidx:=at_str s k hlt
    cases hg:signB (byteAt s k) with
    | false =>
      have C:∀ w',Calls Tryz.prog 128 #[.int .u8 (byteAt s k)] w' fun e w''=>e=.returned (.bool false)∧w''=w':=fun w'=>by rw [← hg];exact refSign_any _ w'
      have HC:=hid C
      clear C
      go_wp2_with (first | (go_at_call 128;refine (HC.out _).mono ?_;rintro e w1 ⟨rfl,hw1⟩;replace hw1:=hw1.symm;subst hw1))
      try rw [Exit.noGoto_ret]
      go_ret
      exact ⟨ret_bool (by rw [HB.out,nameB_not k hlt (sign_not k hg)]),rfl⟩
    | true =>
      have C:∀ w',Calls Tryz.prog 128 #[.int .u8 (byteAt s k)] w' fun e w''=>e=.returned (.bool true)∧w''=w':=fun w'=>by rw [← hg];exact refSign_any _ w'
      have HC:=hid C
      clear C
      go_wp2_with (first | (go_at_call 128;refine (HC.out _).mono ?_;rintro e w1 ⟨rfl,hw1⟩;replace hw1:=hw1.symm;subst hw1))
      go_round
      case rel=>exact ⟨k+1,by omega,by go_num,fun j hj=>if h:j=k then by rw [h];exact hg else HP.out j (by omega)⟩
      case measure=>simp [intOf];omega
  · obtain rfl:k=s.size:=by omega
    have hge:¬ (s.size:Int) < (s.size:Int):=by omega
    by_cases h0:s.size=0
    · have h0':(s.size:Int)=0:=by omega
      go_wp2
      go_ret
      refine ⟨ret_bool ?_,rfl⟩
      rw [HB.out];unfold nameB fitsB;simp [h0]
    · have hidx:∀ w',(Instr.index 9 (.string s) (.int .i64 0)).run Tryz.prog w'=.ok (.int .u8 (byteAt s 0)) w':=fun w'=>at_str s 0 (by omega) w'
      have HL:Hid (∀ w',Calls Tryz.prog 129 #[.int .u8 (byteAt s 0)] w' _):=fun w'=>refLower_any (byteAt s 0) w'
      have h1:(1:Int)≤(s.size:Int):=by omega
      by_cases h32:s.size≤32
      · have h32':(s.size:Int)≤32:=by omega
        go_wp2_with (first | (go_at_call 129;refine (HL.out _).mono ?_;rintro e w1 ⟨rfl,hw1⟩;replace hw1:=hw1.symm;subst hw1))
        go_ret
        refine ⟨ret_bool ?_,rfl⟩
        rw [HB.out]
        cases hsm:smallB (byteAt s 0) with
        | true =>
          rw [nameB_all]
          · unfold fitsB;rw [decide_eq_true (by omega)]
          · intro j hj
            by_cases hj0:j=0
            · rw [hj0];unfold okB;rw [hsm];rfl
            · exact ok_sign hj0 (HP.out j hj)
        | false =>
          rw [nameB_not 0 (by omega)]
          unfold okB;rw [hsm];simp
      · have h32':¬ (s.size:Int)≤32:=by omega
        go_wp2_with (first | (go_at_call 129;refine (HL.out _).mono ?_;rintro e w1 ⟨rfl,hw1⟩;replace hw1:=hw1.symm;subst hw1))
        go_ret
        refine ⟨ret_bool ?_,rfl⟩
        rw [HB.out];unfold nameB fitsB;rw [decide_eq_false (p:=1≤s.size∧s.size≤32) (by omega)];simp
open Go.Shelf
attribute [local go_sem] Oper.semAt_some
theorem back1_out (n l Bs:Nat) (av:Option Addr) (m cap:Nat) (S:Nat→ByteArray) (J:Nat→World→Prop) (X:World→Prop) (W:World) (hm:m≤1048576) (h0:J m W)
 (hB:∀ k W,J k W→W.cell? ⟨Bs,0,none⟩=some (.slice av m cap)∧Txs W av m S)
 (hY:∀ (m' k:Nat) (W:World),k < m→J (k+1) W→YieldAt Fence.wide m' Tryz.prog l #[.int .i64 (k:Nat),.string (S k)] W fun e W'=>(e=.returned (.bool true)∧J k W') ∨ (e=.returned (.bool false)∧X W')) :
 CallsIn Fence.wide n Tryz.prog 179 #[.func (.yield l) #[] #[],.pointer (some ⟨Bs,0,none⟩)] W fun e W'=>(∃ v,e=.returned v)∧(J 0 W' ∨ X W'):=by
 have hdd:∀ k:Nat,(Fence.wide.depth.isSome=true→1≤k):=fun k h=>by cases h
 have c0:=(hB m W h0).1
 refine callsIn_of_wp Tryz.func179 rfl trivial ?_ rfl
 simp only [Tryz.ntmps179,List.size_toArray,List.length_cons,List.length_nil,Nat.reduceAdd,Nat.reduceSub,Array.replicate_succ,Array.replicate_zero,List.push_toArray,List.append_toArray,List.nil_append,List.cons_append]
 gi_wp2
 gi_loopw [3] (fun u wr=>∃ k:Nat,k≤m∧u=.int .i64 ((k:Int) - 1)∧J k wr) (fun u _=>(intOf u+1).toNat)
 case atStart=>exact ⟨m,Nat.le_refl _,by go_num,h0⟩
 case round =>
  obtain ⟨k,hk,rfl,hj⟩:=hrel
  match k,hk,hj with
  | 0,hk,hj =>
    gi_wp2
    go_end0
    exact ⟨⟨_,rfl⟩,.inl hj⟩
  | k+1,hk,hj =>
    obtain ⟨c1,hx⟩:=hB _ _ hj
    obtain ⟨b,o,rfl,hc⟩:=hx (by omega)
    have c2:=hc k (by omega)
    have e1:(((k+1:Nat):Int) - 1)=(k:Int):=by omega
    obtain ⟨fn,tmps,assign,body,hy,hR⟩:=hY (n - 1) k wr (by omega) hj
    clear hc hx hY
    rw [e1]
    gi_wp2_with (first
     | ((try refine ⟨hdd _,?_⟩);refine hR.mono ?_;clear hR;rintro e W1 (⟨rfl,hj1⟩ | ⟨rfl,hx1⟩)))
    · exact ⟨⟨k,by omega,by go_num,hj1⟩,by simp [intOf]⟩
    · exact bodyPost_ret (v:=.tuple #[]) (by simp [results,Tryz.results179,go_sem]) rfl ⟨⟨_,rfl⟩,.inr hx1⟩
def outPost (B:Nat) (J X:World→Prop) (W:World):Exit→Act→World→Prop
 | .normal,_,W'=>KeepsFrom B W W'∧Kp (fun k=>k < B) W W'∧J W'
 | .ret,_,W'=>KeepsFrom B W W'∧X W'
 | _,_,_=>False
theorem back_out {n:Nat} {g:Operand} {ps:Array Tmp} {assign body:Code} {Q:Exit→Act→World→Prop} {a:Act} {w:World} (Bs:Nat) (av:Option Addr) (m cap:Nat) (S:Nat→ByteArray) (J:Nat→World→Prop) (X:World→Prop)
 (hg:a.eval g=.func (.func 179) #[] #[.pointer (some ⟨Bs,0,none⟩)]) (hps:ps.size=2) (hBs:Boxed w Bs 37 (.slice av m cap)) (hx:Txs w av m S) (hm:m≤1048576)
 (hJ:∀ k W A,Ag w.heap.size W A→J k W→J k A) (hXA:∀ W A,Ag w.heap.size W A→X W→X A) (h0:∀ W,Below w.heap.size w W→J m W)
 (a₁:Nat→Act)
 (hassign:∀ (l k:Nat) (W:World) (K:Act→World→Prop),K (a₁ k) W →
   assign.wpIn (Fence.wide.inRound l) (n - 1 - 1) Tryz.prog (Exit.then K (fun _ _ _=>False)) { tmps:=(ps.zip #[.int .i64 k,.string (S k)]).foldl (fun t (p,v)=>t.setIfInBounds p v) a.tmps,defers:=[] } W)
 (hbody:∀ (l k:Nat) (W:World),k < m→J (k+1) W→w.heap.size+2≤W.heap.size →
   body.wpIn (Fence.wide.inRound l) (n - 1 - 1) Tryz.prog (outPost w.heap.size (J k) X W) (a₁ k) W)
 (hdone:∀ (D:Nat) (W:World),w.heap.size≤D→J 0 W→W.heap[D]? = some (.deferred (some []))→Q .normal { a with defers:={ target:=.collected D,args:=#[] } :: a.defers } W)
 (hstop:∀ (D:Nat) (W:World),w.heap.size≤D→X W→W.heap[D]? = some (.deferred (some []))→Code.ret.wpIn Fence.wide n Tryz.prog Q { a with defers:={ target:=.collected D,args:=#[] } :: a.defers } W) :
 (Code.rangeFunc g ps assign body).wpIn Fence.wide n Tryz.prog Q a w:=by
 have hlt:Bs < w.heap.size:=hBs.lt
 refine wpIn_range (α:=Nat) hg (enters_of Tryz.func179 (by kernel_rfl) rfl) (encs:=fun k=>#[.int .i64 k,.string (S k)]) (fun _=>hps.symm)
  (fun k W=>k < m∧J (k+1) W∧w.heap.size+2≤W.heap.size)
  (fun k W W'=>Kp (fun k=>k < w.heap.size) W W'∧J k W'∧w.heap.size+2≤W'.heap.size)
  (fun c _ _ W'=>c=.ret∧X W') (J 0) (fun c W=>c=.ret∧X W) ?_ ?_ (fun _ _ _ _ _ W' _ hag h=>⟨h.1,hXA _ _ hag h.2⟩) (fun W A h=>hJ _ W A h) (fun _ _ _ hag h=>⟨h.1,hXA _ _ hag h.2⟩) a₁ hassign ?_ ?_ hdone (fun D c W hD h hK=>by obtain ⟨rfl,h⟩:=h;exact hstop D W hD h hK)
 · rintro k W A hag ⟨h1,h2,h3⟩
   exact ⟨h1,hJ _ _ _ hag h2,by rw [hag.size];exact h3⟩
 · rintro k W A A' W' hag hag' ⟨h1,h2,h3⟩
   exact ⟨Kp.ag hag hag' h1,hJ _ _ _ hag' h2,by rw [hag'.size];exact h3⟩
 · rintro l k W ⟨h1,h2,h3⟩ _
   refine wpIn_mono (hbody l k W h1 h2 h3) ?_
   rintro e a3 W3 hp
   cases e with
   | normal=>exact ⟨hp.1,hp.2.1,hp.2.2,Nat.le_trans h3 hp.1.size⟩
   | ret=>exact ⟨hp.1,rfl,hp.2⟩
   | exit id=>exact hp.elim
   | goto t=>exact hp.elim
   | panic ch=>exact hp.elim
   | outgrown=>exact hp.elim
 · intro l Rec RecX W1 hB1 hs1 hrec1 hrec hrecx hY
   refine (back1_out (n - 1) l Bs av m cap S (fun k W=>J k W∧Rec W∧Kp (fun k=>k < w.heap.size) w W∧w.heap.size+2≤W.heap.size) (fun W=>∃ c,(c=.ret∧X W)∧RecX c W) W1 hm ⟨h0 W1 hB1,hrec1,Kp.of_below hB1 fun _ h=>h,by omega⟩ ?_ ?_).mono ?_
   · rintro k W ⟨h1,h2,h3,h4⟩
     refine ⟨(h3.boxed hlt hBs).cell,fun hm0=>(Txs.kept h3 (fun b o e=>Txs.lt hx hm0 e) hx) hm0⟩
   · rintro m' k W hk ⟨h1,h2,h3,h4⟩
     refine YieldAt.mono (hY m' k W ⟨hk,h1,h4⟩ h2) ?_
     rintro e W' (⟨rfl,⟨k1,k2,k3⟩,k4,-⟩ | ⟨rfl,c,k1,k2⟩)
     · exact .inl ⟨rfl,k2,k4,h3.trans k1,k3⟩
     · exact .inr ⟨rfl,c,k1,k2⟩
   · rintro e W' ⟨hv,h | h⟩
     · exact ⟨hv,.inl ⟨h.1,h.2.1⟩⟩
     · exact ⟨hv,.inr h⟩
open Go.ChangeShapes Go.WideShapes
section
variable {H:Type} {enc:TypeId × Value→H} {w:World} {base:Nat} {spare:Nat→Bool} {held:Bool}
theorem val_under:∃ f0 f1 f2:Field,Tryz.prog.underlying 52=some (.struct #[f0,f1,f2])∧f0.offset=0∧f1.offset=1∧f2.offset=2∧f0.type=3∧f1.type=2∧f2.type=9:=⟨_,_,_,Tryz.underlying52,rfl,rfl,rfl,rfl,rfl,rfl⟩
theorem cells_v:Tryz.prog.cellsOf 52=3:=by kernel_rfl
theorem cells_n:Tryz.prog.cellsOf 2=1:=by kernel_rfl
theorem trod_val {fuel:Nat} {cs:List Value} {x:DataW H × List MemPlace} (h:DataW.trod enc Tryz.prog w base spare held fuel 52 cs=some x) :
 ∃ q:Val,cs=[.int .i64 q.k,.int .i64 q.n,.string q.s]:=by
 obtain ⟨f0,f1,f2,hu,o0,o1,o2,t0,t1,t2⟩:=val_under
 obtain ⟨y0,y1,y2,m,rfl,hl,g0,g1,g2⟩:=Deep.trod_struct3 hu h
 rw [cells_v] at hl
 rw [o0,t0,cells_i] at g0
 rw [o1,t1,cells_n] at g1
 rw [o2,t2,cells_s] at g2
 match cs,hl with
 | [c0,c1,c2],_ =>
   obtain ⟨k,e0,rfl,w0⟩:=DataW.trod_int Tryz.underlying3 g0
   obtain ⟨n,e1,rfl,w1⟩:=DataW.trod_int Tryz.underlying2 g1
   obtain ⟨s,e2,rfl,w2⟩:=DataW.trod_string Tryz.underlying9 g2
   simp at e0 e1 e2
   subst e0 e1 e2
   exact ⟨⟨k,n,s⟩,rfl⟩
end
end Go.Proofs.YtkfpgkohkhhlhaaGreatDoor
