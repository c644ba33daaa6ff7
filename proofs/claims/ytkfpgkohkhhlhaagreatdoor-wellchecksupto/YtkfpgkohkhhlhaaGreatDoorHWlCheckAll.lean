/- Texts that the last one stands on. -/
import Derived.Test.YtkfpgkohkhhlhaaGreatDoorHWlCond
set_option maxRecDepth 100000
set_option maxHeartbeats 8000000
namespace Go.Proofs.YtkfpgkohkhhlhaaGreatDoor
open Go.RowKit
theorem checkW_any (a:Option Addr) (ns cs:Nat) (Q:Nat→Sch) (q:Qy) (N T:Addr) (w:World) (hS:Schs w a ns Q) (hQ:IsQ w q) (hok:QOk q) (hsm:q.bulk≤1048576) (hSe:Sens w N T) (hE:w.cell? ⟨0,0,none⟩=some (rty 66)) :
 Calls Tryz.prog 8 #[.slice a ns cs,q.val] w fun e w'=>∃ z,e=.returned (.int .i64 z)∧WellR q ns Q z∧Below w.heap.size w w':=by
 obtain ⟨P0,hP0⟩:∃ P0,w.alloc (.cells q.cells 29)=P0:=⟨_,rfl⟩
 have hqb:QB P0 w.heap.size q:=by rw [← hP0];exact QB.new w q
 have hBP:Below w.heap.size w P0:=by rw [← hP0];exact nwB w _
 have hsP:P0.heap.size=w.heap.size+1:=by rw [← hP0];simp
 obtain ⟨⟨d0,d1,d2,d3,d4,d5⟩,d6,d7,d8,d9,d10⟩:=hqb.at0
 obtain ⟨A,hA⟩:∃ A,P0.alloc (.cells (askC (.slice a ns cs) q (.slice none 0 0) (.slice none 0 0) (.slice none 0 0) (.pointer none)) 59)=A:=⟨_,rfl⟩
 have hAB:AB A P0.heap.size (.slice a ns cs) q (.slice none 0 0) (.slice none 0 0) (.slice none 0 0) (.pointer none):=by rw [← hA];exact alloc_new P0 _
 have hBA:Below w.heap.size w A:=hBP.trans ((by rw [← hA];exact (Below.refl _ P0).alloc (Nat.le_refl _) _:Below P0.heap.size P0 A).mono (by omega))
 have hsA:A.heap.size=P0.heap.size+1:=by rw [← hA];simp
 obtain ⟨C,hC⟩:∃ C,A.alloc (.cells #[chkF 0,chkF 1,chkF 2,chkF 3,chkF 4,chkF 5,chkF 6,chkF 7] 62)=C:=⟨_,rfl⟩
 have hBC:Below A.heap.size A C:=by rw [← hC];exact (Below.refl _ A).alloc (Nat.le_refl _) _
 have hCr:C.heap[A.heap.size]? = some (.cells #[chkF 0,chkF 1,chkF 2,chkF 3,chkF 4,chkF 5,chkF 6,chkF 7] 62 (0,0)):=by rw [← hC];exact alloc_new A _
 have hsC:C.heap.size=A.heap.size+1:=by rw [← hC];simp
 have hSt:St w P0.heap.size a ns cs Q q 0 C:=⟨fun j hj=>absurd hj (Nat.not_lt_zero _),hBA.trans (hBC.mono hBA.size),fun _=>hAB.later hBC,fun h=>absurd h (by decide)⟩
 have HST:Hid (∀ k W,k < 8→St w P0.heap.size a ns cs Q q k W→Calls Tryz.prog (fnK k) #[.pointer (some ⟨P0.heap.size,0,none⟩)] W (Stage w P0.heap.size a ns cs Q q k W)):=stage_any w P0.heap.size a ns cs Q q N T (by omega) hS hQ hok hsm hSe
 have HE:=hid hE
 have HS0:=hid hSt
 have HCr:=hid hCr
 clear hS hQ hok hsm hSe hE hSt hCr hAB hqb
 go_enter Tryz.func8,Tryz.ntmps8
 go_wp2_with (go_at_call 22;refine (checks_any _).mono ?_;rintro e w1 ⟨rfl,rfl⟩)
 rw [hsP] at HST HS0
 rw [hsA,hsP] at HCr
 clear d0 d1 d2 d3 d4 d5 d6 d7 d8 d9 d10 hP0 hA hC
 go_loopw [15] (fun u wr=>∃ k:Nat,k≤8∧u=.int .i64 k∧Hid (St w (w.heap.size+1) a ns cs Q q k wr)∧Hid (wr.heap[w.heap.size+1+1]? = some (.cells #[chkF 0,chkF 1,chkF 2,chkF 3,chkF 4,chkF 5,chkF 6,chkF 7] 62 (0,0)))) (fun u _=>8 - (intOf u).toNat)
 case atStart=>exact ⟨0,by omega,rfl,HS0,HCr⟩
 case round =>
  obtain ⟨k,hk,rfl,HSk,HRk⟩:=hrel
  by_cases hk8:k < 8
  · obtain ⟨V,hV⟩:∃ V,wr.alloc (.cells #[.int .i64 0] 63)=V:=⟨_,rfl⟩
    have hBV:Below wr.heap.size wr V:=by rw [← hV];exact (Below.refl _ wr).alloc (Nat.le_refl _) _
    have hbV:Boxed V wr.heap.size 63 (.int .i64 0):=by rw [← hV];exact Boxed.new wr _ _
    have hsV:V.heap.size=wr.heap.size+1:=by rw [← hV];simp
    have CS:=HST.out k V hk8 (HSk.out.later hBV)
    have ck:wr.cell? ⟨w.heap.size+1+1,k,none⟩=some (chkF k):=by
     match k,hk8 with
     | 0,_=>simp [World.cell?,HRk.out]
     | 1,_=>simp [World.cell?,HRk.out]
     | 2,_=>simp [World.cell?,HRk.out]
     | 3,_=>simp [World.cell?,HRk.out]
     | 4,_=>simp [World.cell?,HRk.out]
     | 5,_=>simp [World.cell?,HRk.out]
     | 6,_=>simp [World.cell?,HRk.out]
     | 7,_=>simp [World.cell?,HRk.out]
    have hsw:w.heap.size+2 < wr.heap.size:=(Array.getElem?_eq_some_iff.1 HRk.out).1
    have HBT:Hid (∀ w2,Bt (w.heap.size+1) V w2→Boxed w2 wr.heap.size 63 (.int .i64 0)∧w2.cell? ⟨0,0,none⟩=some (rty 66)∧Below w.heap.size w w2∧w2.heap[w.heap.size+1+1]? = wr.heap[w.heap.size+1+1]?):=fun w2 h2=>by
     have hB2:Below w.heap.size w w2:=(HSk.out.2.1.trans (hBV.mono (by omega))).trans (h2.1.mono (by omega))
     exact ⟨h2.boxed hbV (by omega),cell_later HE.out hB2,hB2,(h2.2 _ (by omega) (by omega)).trans (hBV.block _ (by omega))⟩
    have HP:Hid (∀ j,j < k→Az q ns Q j 0):=HSk.out.1
    clear hbV hsV hBV HST HSk
    have hor:k=0 ∨ k=1 ∨ k=2 ∨ k=3 ∨ k=4 ∨ k=5 ∨ k=6 ∨ k=7:=by omega
    rcases hor with rfl | rfl | rfl | rfl | rfl | rfl | rfl | rfl
    all_goals simp only [fnK,chkF] at CS ck
    all_goals go_wp2_with (first
     | (go_at_call 23;refine (as_any y wr.heap.size 0 w2 hq1 hq2).mono ?_;rintro e w3 ⟨rfl,hb3,hB3⟩;have cb3:=hb3.cell)
     | (go_at_call 23;refine (as_nil _ _).mono ?_;rintro e w3 ⟨rfl,rfl⟩)
     | ((first | go_at_call 63 | go_at_call 64 | go_at_call 65 | go_at_call 66 | go_at_call 67 | go_at_call 68 | go_at_call 69 | go_at_call 70);refine CS.mono ?_;clear CS;rintro e w2 ⟨z,v,rfl,hz,hv,hnx,hBt⟩;obtain ⟨hq1,hq2,hq3,hq4⟩:=HBT.out w2 hBt;have HNX:=hid hnx;have HZ:=hid hz;clear hnx hz hBt;rcases hv with ⟨rfl,rfl⟩ | ⟨hz0,y,hy,rfl⟩))
    all_goals first
     | (go_ret
        exact ⟨z,rfl,.inr ⟨hz0,_,hk8,HP.out,HZ.out⟩,hq3.trans (hB3.mono (by omega))⟩)
     | (go_roundw
        case rel =>
         refine ⟨_,?_,?_,HNX.out (by first | rfl | trivial),?_⟩
         · omega
         · first | rfl | simp
         · show _=_
           rw [hq4]
           exact HRk.out
        case measure=>simp [intOf])
  · have hk':k=8:=by omega
    subst hk'
    go_wp2
    go_ret
    exact ⟨0,rfl,.inl ⟨rfl,HSk.out.1⟩,HSk.out.2.1⟩
abbrev tBuy:ByteArray:=⟨#[98,117,121]⟩
abbrev tSell:ByteArray:=⟨#[115,101,108,108]⟩
abbrev tTick:ByteArray:=⟨#[116,105,99,107]⟩
abbrev tA:ByteArray:=⟨#[97]⟩
abbrev flds3:Obj:=.cells #[.string ⟨#[120]⟩,.int .i64 2,.string ⟨#[107]⟩,.int .i64 3,.string ⟨#[98]⟩,.int .i64 1] 112
abbrev flds2:Obj:=.cells #[.string ⟨#[107]⟩,.int .i64 3,.string ⟨#[120]⟩,.int .i64 2] 112
abbrev schs3 (p:Nat):Obj:=.cells #[.string tBuy,.slice (some ⟨p,0,none⟩) 3 3,.string tSell,.slice (some ⟨p,0,none⟩) 3 3,.string tTick,.slice (some ⟨p+1,0,none⟩) 2 2] 115
def fn3:Nat→ByteArray
 | 0=>⟨#[120]⟩
 | 1=>⟨#[107]⟩
 | _=>⟨#[98]⟩
def fk3:Nat→Int
 | 0=>2
 | 1=>3
 | _=>1
def fn2:Nat→ByteArray
 | 0=>⟨#[107]⟩
 | _=>⟨#[120]⟩
def fk2:Nat→Int
 | 0=>3
 | _=>2
def bookQ (p:Nat):Nat→Sch
 | 0=>⟨tBuy,some ⟨p,0,none⟩,3,3,fn3,fk3⟩
 | 1=>⟨tSell,some ⟨p,0,none⟩,3,3,fn3,fk3⟩
 | _=>⟨tTick,some ⟨p+1,0,none⟩,2,2,fn2,fk2⟩
theorem bookQ_ok (p:Nat):bookZ 3 (bookQ p)=0:=by kernel_rfl
abbrev bookW (w:World):World:=((w.alloc flds3).alloc flds2).alloc (schs3 w.heap.size)
theorem book14_any (w:World):Calls Tryz.prog 21 #[] w fun e w'=>e=.returned (.slice (some ⟨w.heap.size+2,0,none⟩) 3 3)∧w'=bookW w:=by
 go_enter Tryz.func21,Tryz.ntmps21
 go_wp2
 go_ret
 exact ⟨rfl,rfl⟩
theorem cell_of {W:World} {b j:Nat} {c:Array Value} {t:TypeId} {v:Value} (h:W.heap[b]? = some (.cells c t (0,0))) (hv:c[j]? = some v):W.cell? ⟨b,j,none⟩=some v:=by simp [World.cell?,h,hv]
theorem book14_schs (w:World):Schs (bookW w) (some ⟨w.heap.size+2,0,none⟩) 3 (bookQ w.heap.size):=by
 have hz1:(w.alloc flds3).heap.size=w.heap.size+1:=by simp
 have hz2:((w.alloc flds3).alloc flds2).heap.size=w.heap.size+2:=by simp
 have b3:(bookW w).heap[w.heap.size]? = some flds3:=by
  rw [show bookW w=((w.alloc flds3).alloc flds2).alloc (schs3 w.heap.size) from rfl,alloc_old (by omega),alloc_old (by omega)]
  exact alloc_new w _
 have b2:(bookW w).heap[w.heap.size+1]? = some flds2:=by
  rw [show bookW w=((w.alloc flds3).alloc flds2).alloc (schs3 w.heap.size) from rfl,alloc_old (by omega),← hz1]
  exact alloc_new _ _
 have b1:(bookW w).heap[w.heap.size+2]? = some (schs3 w.heap.size):=by
  rw [← hz2]
  exact alloc_new _ _
 have F3:Flds (bookW w) (some ⟨w.heap.size,0,none⟩) 3 fn3 fk3:=fun _=>by
  refine ⟨w.heap.size,0,rfl,fun j hj=>?_⟩
  match j,hj with
  | 0,_=>exact ⟨⟨cell_of b3 rfl,cell_of b3 rfl⟩,by decide⟩
  | 1,_=>exact ⟨⟨cell_of b3 rfl,cell_of b3 rfl⟩,by decide⟩
  | 2,_=>exact ⟨⟨cell_of b3 rfl,cell_of b3 rfl⟩,by decide⟩
 have F2:Flds (bookW w) (some ⟨w.heap.size+1,0,none⟩) 2 fn2 fk2:=fun _=>by
  refine ⟨w.heap.size+1,0,rfl,fun j hj=>?_⟩
  match j,hj with
  | 0,_=>exact ⟨⟨cell_of b2 rfl,cell_of b2 rfl⟩,by decide⟩
  | 1,_=>exact ⟨⟨cell_of b2 rfl,cell_of b2 rfl⟩,by decide⟩
 refine ⟨fun _=>⟨w.heap.size+2,0,rfl,fun j hj=>?_⟩,fun j hj=>?_⟩
 · match j,hj with
   | 0,_=>exact ⟨⟨cell_of b1 rfl,cell_of b1 rfl⟩,by show tBuy.size≤maxLen;decide⟩
   | 1,_=>exact ⟨⟨cell_of b1 rfl,cell_of b1 rfl⟩,by show tSell.size≤maxLen;decide⟩
   | 2,_=>exact ⟨⟨cell_of b1 rfl,cell_of b1 rfl⟩,by show tTick.size≤maxLen;decide⟩
 · match j,hj with
   | 0,_=>exact ⟨F3,by show (3:Nat)≤_;omega⟩
   | 1,_=>exact ⟨F3,by show (3:Nat)≤_;omega⟩
   | 2,_=>exact ⟨F2,by show (2:Nat)≤_;omega⟩
def qNil:Qy:=⟨.nil,none,0,0,fun _=>.nil,⟨#[]⟩,0,0,none,0,0,fun _=>⟨⟨#[]⟩,0,⟨#[]⟩,⟨#[]⟩⟩⟩
def qOne:Qy:=⟨.mk 1 tA tBuy 0 0 none 0 0 (fun _=>.nil),none,0,0,fun _=>.nil,⟨#[]⟩,0,0,none,0,0,fun _=>⟨⟨#[]⟩,0,⟨#[]⟩,⟨#[]⟩⟩⟩
theorem qNil_is (w:World):IsQ w qNil:=⟨trivial,⟨Nat.le_refl _,Nat.zero_le _,fun _ hi=>absurd hi (Nat.not_lt_zero _)⟩,fun _ hi=>absurd hi (Nat.not_lt_zero _),Nat.le_refl _,Nat.zero_le _⟩
theorem qOne_is (w:World):IsQ w qOne:=⟨⟨Nat.le_refl _,Nat.zero_le _,fun _ hi=>absurd hi (Nat.not_lt_zero _)⟩,⟨Nat.le_refl _,Nat.zero_le _,fun _ hi=>absurd hi (Nat.not_lt_zero _)⟩,fun _ hi=>absurd hi (Nat.not_lt_zero _),Nat.le_refl _,Nat.zero_le _⟩
theorem xNone_ok {a:Option Addr} {cap:Nat} {c:Nat→X}:XOk (.mk 16 val0 ⟨#[]⟩ ⟨#[]⟩ a 0 cap c):=⟨by decide,by decide,fun i hi=>absurd hi (Nat.not_lt_zero _)⟩
theorem qNil_ok:QOk qNil:=⟨trivial,xNone_ok,by decide,fun i hi=>absurd hi (Nat.not_lt_zero _)⟩
theorem qOne_ok:QOk qOne:=⟨⟨by decide,by decide,fun i hi=>absurd hi (Nat.not_lt_zero _)⟩,xNone_ok,by decide,fun i hi=>absurd hi (Nat.not_lt_zero _)⟩
theorem qNil_bad (Q:Nat→Sch):¬ WellR qNil 0 Q 0:=by
 rintro (⟨_,h⟩ | ⟨h,_⟩)
 · have h1:(0:Int)=chkQ qNil:=h 1 (by omega)
   have h2:clN qNil 0=0:=lexN_zero.1 h1.symm 0 (by omega)
   have h3:chkP .nil=0:=h2
   have:chkP .nil=1:=by kernel_rfl
   rw [this] at h3
   cases h3
 · exact h rfl
theorem one_uses:usesP qOne.p=[qOne.p]:=by rw [usesP_eq];rfl
theorem qOne_chk:chkQ qOne=0:=by
 refine lexN_zero.2 fun i hi=>?_
 match i,hi with
 | 0,_=>show chkP qOne.p=0;kernel_rfl
 | 1,_=>rfl
 | 2,_=>rfl
 | 3,_=>rfl
 | 4,_ =>
   show cl5 qOne=0
   unfold cl5
   rw [if_neg]
   rintro ⟨i,hi,_⟩
   exact absurd hi (Nat.not_lt_zero _)
 | 5,_=>show argB (decide ((⟨#[]⟩:ByteArray)=⟨#[]⟩) || nameB ⟨#[]⟩)=0;simp [argB]
 | 6,_=>rfl
 | 7,_=>rfl
 | 8,_ =>
   show cl9 qOne=0
   unfold cl9
   rw [if_pos]
   exact ⟨fun i hi=>absurd hi (Nat.not_lt_zero _),fun i hi=>absurd hi (Nat.not_lt_zero _)⟩
theorem qOne_made:MadeP qOne.p:=by
 refine ⟨by decide,?_,?_⟩
 · intro a ha b hb _
   rw [one_uses] at ha hb
   rw [List.mem_singleton] at ha hb
   subst ha hb
   exact ⟨rfl,Iff.rfl⟩
 · intro v hv
   rw [visP_eq,List.mem_cons] at hv
   rcases hv with rfl | hv
   · exact ⟨by kernel_rfl,.inr fun i j _ hj=>absurd hj (Nat.not_lt_zero _)⟩
   · obtain ⟨i,hi,_⟩:=mem_catN.1 hv
     exact absurd hi (Nat.not_lt_zero _)
theorem qOne_good (p:Nat):WellR qOne 3 (bookQ p) 0:=by
 refine .inl ⟨rfl,fun j hj=>?_⟩
 match j,hj with
 | 0,_=>show 0=if bookZ 3 (bookQ p)=0 then (0:Int) else 1;rw [if_pos (bookQ_ok p)]
 | 1,_=>exact qOne_chk.symm
 | 2,_=>exact .inr (.inl ⟨lexN_zero.1 qOne_chk 0 (by omega),qOne_made,rfl⟩)
 | 3,_=>exact ⟨.inr rfl,fun h=>absurd h (by decide),fun h=>absurd h.1.choose_spec.1 (by decide)⟩
 | 4,_ =>
   show 0=newZ (fstL qOne.p).length (fstL qOne.p).length (fstT qOne.p) 3 (bookQ p)
   have hl:fstL qOne.p=[qOne.p]:=by show firstL (usesP qOne.p)=_;rw [one_uses];rfl
   unfold fstT
   rw [hl]
   rw [newZ,if_pos ⟨bookQ_ok p,rfl⟩]
   rw [if_neg]
   show ¬ (false || (idx (fun j=>(bookQ p j).nm) tBuy 3).isNone)=true
   rw [idx_at (fun j=>(bookQ p j).nm) tBuy 3 0 (by omega) rfl (fun j hj=>absurd hj (Nat.not_lt_zero _))]
   decide
 | 5,_=>exact .inl ⟨rfl,fun i hi=>absurd hi (Nat.not_lt_zero _)⟩
 | 6,_=>exact .inl ⟨rfl,rfl⟩
 | 7,_=>exact .inl ⟨rfl,fun i hi=>absurd hi (Nat.not_lt_zero _)⟩
theorem awake14_any (N T:Addr) (w:World) (hSe:Sens w N T) (hE:w.cell? ⟨0,0,none⟩=some (rty 66)):Calls Tryz.prog 7 #[] w (RV (.bool true) w):=by
 have hS0:∀ d,Schs d none 0 (fun _=>⟨⟨#[]⟩,none,0,0,fun _=>⟨#[]⟩,fun _=>0⟩):=fun d=>⟨fun h=>absurd h (Nat.not_lt_zero _),fun j hj=>absurd hj (Nat.not_lt_zero _)⟩
 have C1:=checkW_any none 0 0 _ qNil N T w (hS0 w) (qNil_is w) qNil_ok (by decide) hSe hE
 have C2:Hid (∀ d,Below w.heap.size w d→Calls Tryz.prog 8 #[.slice (some ⟨d.heap.size+2,0,none⟩) 3 3,qOne.val] (bookW d) (RV (.int .i64 0) w)):=fun d hd=>by
  have hB:Below d.heap.size d (bookW d):=(((Below.refl _ d).alloc (Nat.le_refl _) _).alloc (by simp) _).alloc (by simp;omega) _
  have hB':=hd.trans (hB.mono hd.size)
  refine (checkW_any _ 3 3 (bookQ d.heap.size) qOne N T (bookW d) (book14_schs d) (qOne_is _) qOne_ok (by decide) (hSe.later hB') (cell_later hE hB')).mono ?_
  rintro e w' ⟨z,rfl,hz,hB2⟩
  exact ⟨by rw [hz.one (qOne_good _)],hB'.trans (hB2.mono hB'.size)⟩
 clear hSe hE hS0
 go_enter Tryz.func7,Tryz.ntmps7
 go_wp2_with (first
  | (go_at_call 8;refine (C2.out w1 hB1).mono ?_;clear C2;rintro e w2 ⟨rfl,hB2⟩)
  | (go_at_call 8;refine C1.mono ?_;clear C1;rintro e w1 ⟨z,rfl,hz,hB1⟩;have hz0:(z != 0)=true:=by simp;rintro rfl;exact qNil_bad _ hz)
  | (go_at_call 21;refine (book14_any _).mono ?_;rintro e w' ⟨rfl,rfl⟩))
 go_ret
 exact ⟨rfl,hB2⟩
theorem WellR.all {q:Qy} {ns:Nat} {Q:Nat→Sch} (h:WellR q ns Q 0):∀ j,j < 8→Az q ns Q j 0:=by
 rcases h with ⟨_,h⟩ | ⟨h,_⟩
 · exact h
 · exact absurd rfl h
theorem first_nodup (l:List Pt):((firstL l).map (·.s)).Nodup:=by
 have key:∀ (l acc:List Pt),(acc.map (·.s)).Nodup→((l.foldl addU acc).map (·.s)).Nodup:=by
  intro l
  induction l with
  | nil=>intro acc h;exact h
  | cons z l ih =>
    intro acc h
    refine ih (addU acc z) ?_
    cases e:idxF acc z.s with
    | some i=>rw [addU_some e];exact h
    | none =>
      rw [addU_none e,List.map_append,List.nodup_append]
      refine ⟨h,by simp,fun a ha b hb=>?_⟩
      obtain ⟨y,hy,rfl⟩:=List.mem_map.1 ha
      simp only [List.map_cons,List.map_nil,List.mem_singleton] at hb
      rw [hb]
      exact idxF_none.1 e y hy
 exact key l [] List.nodup_nil
end Go.Proofs.YtkfpgkohkhhlhaaGreatDoor
