/- Texts that the last one stands on. -/
import Derived.Test.YtkfpgkohkhhlhaaGreatDoorHExprRightPartsD
import Derived.Test.YtkfpgkohkhhlhaaGreatDoorHShelf
import Derived.Lib.OwnBridge
import Derived.Sort.OwnSorted
import Derived.Sort.Walk0
import Derived.Maps.AppendAt
set_option maxRecDepth 100000
set_option maxHeartbeats 4000000
namespace Go.Proofs.YtkfpgkohkhhlhaaGreatDoor
open Go.RowKit Go.Shelf
attribute [local go_sem] Oper.semAt_some
theorem XT.is {T:Nat→Prop} {w:World}:∀ {x:X},XT T w x→IsX w x:=by
 refine @(X.ind fun x ih hx=>?_)
 rw [xT_eq] at hx
 rw [isX_eq]
 refine ⟨hx.1,hx.2.1,fun i hi=>?_⟩
 obtain ⟨b,o,e,hb,hn,hc⟩:=hx.2.2 i hi
 exact ⟨b,o,e,hn,ih i hi hc⟩
def ChkX (x:X) (r:Int):Prop:=(100 < x.size∧r=2) ∨ (x.size≤100∧TreeR x∧r=0) ∨ (x.size≤100∧¬ TreeR x∧r=1)
theorem ChkX.one {x:X} {r s:Int} (h:ChkX x r) (g:ChkX x s):r=s:=by
 rcases h with ⟨h1,h2⟩ | ⟨h1,h2,h3⟩ | ⟨h1,h2,h3⟩ <;> rcases g with ⟨g1,g2⟩ | ⟨g1,g2,g3⟩ | ⟨g1,g2,g3⟩ <;> first | omega | exact absurd ‹TreeR x› ‹¬ TreeR x› | skip
def SaidAt (pre:List (Int × X)) (sd:Int):Prop:=(sd=0∧∀ v ∈ pre,NodeR v.2) ∨ (sd=1∧¬ ∀ v ∈ pre,NodeR v.2)
theorem SaidAt.yes {pre:List (Int × X)} {sd:Int} {v:Int × X} (h:SaidAt pre sd) (hv:NodeR v.2):SaidAt (pre ++ [v]) sd:=by
 rcases h with ⟨h1,h2⟩ | ⟨h1,h2⟩
 · refine .inl ⟨h1,fun u hu=>?_⟩
   rcases List.mem_append.1 hu with hu | hu
   · exact h2 u hu
   · rw [List.mem_singleton] at hu;rw [hu];exact hv
 · exact .inr ⟨h1,fun h=>h2 fun u hu=>h u (List.mem_append_left _ hu)⟩
theorem SaidAt.no {pre:List (Int × X)} {v:Int × X} (hv:¬ NodeR v.2):SaidAt (pre ++ [v]) 1:=.inr ⟨rfl,fun h=>hv (h v (by simp))⟩
theorem check_in (n:Nat) (x:X) (w:World) (hX:IsX w x) :
 CallsIn Fence.wide n Tryz.prog 98 #[x.val] w fun e w'=>∃ r:Int,e=.returned (.int .i64 r)∧ChkX x r∧Below w.heap.size w w':=by
 have hdd:∀ k:Nat,(Fence.wide.depth.isSome=true→1≤k):=fun k h=>by cases h
 refine callsIn_of_wp_marks Tryz.func98 rfl trivial ?_ rfl
 simp only [Tryz.ntmps98,List.size_toArray,List.length_cons,List.length_nil,Nat.reduceAdd,Nat.reduceSub,Array.replicate_succ,Array.replicate_zero,List.push_toArray,List.append_toArray,List.nil_append,List.cons_append]
 gi_wp2_with (refine ⟨trivial,hdd _,?_⟩;gi_at_call 96;refine (nodes_in _ _ _).mono ?_;rintro e w' ⟨rfl,rfl⟩)
 obtain ⟨A,hA⟩:∃ A,(((((w.alloc (.cells x.cells 54)).alloc (.cells #[.int .i64 0] 32)).alloc (.cells #[.int .i64 0] 3)).alloc (.cells #[.int .i64 0] 32)).alloc (.cells #[.pointer (some ⟨w.heap.size,0,none⟩)] 157))=A:=⟨_,rfl⟩
 have hsz:A.heap.size=w.heap.size+5:=by rw [← hA];simp
 have hB:Below w.heap.size w A:=by rw [← hA];exact ((((nwB w _).alloc (by simp) _).alloc (by first | (simp;done) | (simp;omega)) _).alloc (by first | (simp;done) | (simp;omega)) _).alloc (by first | (simp;done) | (simp;omega)) _
 have hnode:Node A w.heap.size 0 x:=by
  rw [← hA]
  exact (node_new w 54 x).later ((((nwB _ _).alloc (by simp) _).alloc (by first | (simp;done) | (simp;omega)) _).alloc (by first | (simp;done) | (simp;omega)) _)
 have hb1:Boxed A (w.heap.size+1) 32 (.int .i64 0):=by
  have:=(((Boxed.new (w.alloc (.cells x.cells 54)) 32 (.int .i64 0)).alloc (.cells #[.int .i64 0] 3)).alloc (.cells #[.int .i64 0] 32)).alloc (.cells #[.pointer (some ⟨w.heap.size,0,none⟩)] 157)
  rw [World.size_alloc,hA] at this
  exact this
 have hb2:Boxed A (w.heap.size+1+1) 3 (.int .i64 0):=by
  have:=((Boxed.new ((w.alloc (.cells x.cells 54)).alloc (.cells #[.int .i64 0] 32)) 3 (.int .i64 0)).alloc (.cells #[.int .i64 0] 32)).alloc (.cells #[.pointer (some ⟨w.heap.size,0,none⟩)] 157)
  rw [World.size_alloc,World.size_alloc,hA] at this
  exact this
 have hb3:Boxed A (w.heap.size+1+1+1) 32 (.int .i64 0):=by
  have:=(Boxed.new (((w.alloc (.cells x.cells 54)).alloc (.cells #[.int .i64 0] 32)).alloc (.cells #[.int .i64 0] 3)) 32 (.int .i64 0)).alloc (.cells #[.pointer (some ⟨w.heap.size,0,none⟩)] 157)
  rw [World.size_alloc,World.size_alloc,World.size_alloc,hA] at this
  exact this
 have hbp:Boxed A (w.heap.size+1+1+1+1) 157 (.pointer (some ⟨w.heap.size,0,none⟩)):=by
  have:=Boxed.new ((((w.alloc (.cells x.cells 54)).alloc (.cells #[.int .i64 0] 32)).alloc (.cells #[.int .i64 0] 3)).alloc (.cells #[.int .i64 0] 32)) 157 (.pointer (some ⟨w.heap.size,0,none⟩))
  rw [World.size_alloc,World.size_alloc,World.size_alloc,World.size_alloc,hA] at this
  exact this
 rw [hA]
 refine nodes_fold (w.heap.size+1+1+1+1) w.heap.size 0 x (fun k=>k < w.heap.size+1)
  (fun pre W=>Boxed W (w.heap.size+1) 32 (.int .i64 0)∧Boxed W (w.heap.size+1+1) 3 (.int .i64 (pre.length:Int))∧(∃ sd,Boxed W (w.heap.size+1+1+1) 32 (.int .i64 sd)∧SaidAt pre sd)∧pre.length≤100∧Below w.heap.size w W)
  (fun c W=>c=.ret∧100 < x.size∧Boxed W (w.heap.size+1) 32 (.int .i64 2)∧Below w.heap.size w W)
  rfl rfl hbp.cell (fun k hk=>by omega) (by omega) hnode (XIn.xt (n:=w.heap.size) (fun k hk=>by omega) (hX.inn.below hB)) ?_ ?_ ?_ ?_
  (fun d b o=>{ tmps:=#[x.val,.pointer (some ⟨w.heap.size,0,none⟩),.pointer (some ⟨w.heap.size+1,0,none⟩),.pointer (some ⟨w.heap.size+1+1,0,none⟩),.pointer (some ⟨w.heap.size+1+1+1,0,none⟩),undef,.pointer (some ⟨b,o,none⟩),.func (.func 136) #[] #[.pointer (some ⟨w.heap.size+1+1+1+1,0,none⟩)],.int .i64 d,.pointer (some ⟨b,o,none⟩),undef,undef,undef,undef,undef,undef,undef,undef],defers:=[] }) ?_ ?_ ?_ ?_
 · rintro pre W B hag ⟨h1,h2,⟨sd,h3,h4⟩,h5,h6⟩
   exact ⟨hag.boxed h1,hag.boxed h2,⟨sd,hag.boxed h3,h4⟩,h5,hag.below (by omega) h6⟩
 · exact fun pre W h=>⟨h.1,h.2.1,h.2.2.1,h.2.2.2.1,h.2.2.2.2.drew⟩
 · exact fun W h=>⟨Boxed.kept_of hb1 h (by omega),Boxed.kept_of hb2 h (by omega),⟨0,Boxed.kept_of hb3 h (by omega),.inl ⟨rfl,by simp⟩⟩,by simp,hB.trans (h.mono (by omega))⟩
 · rintro c W B hag ⟨h1,h2,h3,h4⟩
   exact ⟨h1,h2,hag.boxed h3,hag.below (by omega) h4⟩
 · intro l d b o W K hK
   gi_wp2
   first | exact hK | simpa using hK
 · rintro l d b o y pre W hb hn hx ⟨h1,h2,⟨sd,h3,h4⟩,h5,h6⟩ hs hlt
   rw [length_vis] at hlt
   have c2:=h2.cell
   have f2:=h2.frozen
   obtain ⟨m,hm⟩:∃ m,m=pre.length:=⟨_,rfl⟩
   have HM:=hid hm
   rw [← hm] at c2 h2 h5 hlt
   have e1:=h1.other (show w.heap.size+1 ≠ w.heap.size+1+1 by omega) (.int .i64 ((m:Int)+1))
   have e2:=h2.set (.int .i64 ((m:Int)+1))
   have e3:=h3.other (show w.heap.size+1+1+1 ≠ w.heap.size+1+1 by omega) (.int .i64 ((m:Int)+1))
   have kp1:Kp (fun k=>k < w.heap.size+1 ∨ k=A.heap.size+2 ∨ k=A.heap.size+3) W (W.setCell ⟨w.heap.size+1+1,0,none⟩ (.int .i64 ((m:Int)+1))):=Kp.set _ (by simp;omega)
   have n1:Node (W.setCell ⟨w.heap.size+1+1,0,none⟩ (.int .i64 ((m:Int)+1))) b o y:=hn.kept kp1 (.inl hb)
   have x1:IsX (W.setCell ⟨w.heap.size+1+1,0,none⟩ (.int .i64 ((m:Int)+1))) y:=(hx.kept (kp1.mono fun k hk=>.inl hk)).is
   have b1:Below w.heap.size w (W.setCell ⟨w.heap.size+1+1,0,none⟩ (.int .i64 ((m:Int)+1))):=h6.setCell (p:=⟨w.heap.size+1+1,0,none⟩) (by simp;omega) _
   have k1:KeepsOthers W (W.setCell ⟨w.heap.size+1+1,0,none⟩ (.int .i64 ((m:Int)+1))):=KeepsOthers.setCell _ _ _
   have g1:=e1.cell
   have g2:=e2.cell
   have i1:=e1.frozen
   by_cases hm100:100 < m+1
   · have hm':(100:Int) < (m:Int)+1:=by omega
     clear hm
     gi_wp2
     exact ⟨(k1.trans (KeepsOthers.setCell _ _ _)).from _,rfl,by omega,e1.set _,b1.setCell (p:=⟨w.heap.size+1,0,none⟩) (by simp) _⟩
   · have hm':¬ (100:Int) < (m:Int)+1:=by omega
     have hr:=rightX_any b o y _ n1 x1
     have hl1:(pre ++ [(d,y)]).length=m+1:=by simp [hm]
     clear hm
     gi_wp2_with (refine ⟨trivial,hdd _,?_⟩;gi_at_call 138;refine (CallsIn.inRound l (callsIn_wide.2 hr)).mono ?_;rintro e w2 ⟨r,rfl,hrr,hB2⟩;have q3:=Boxed.kept_of e3 hB2 (Boxed.lt e3);have gq3:=q3.cell;have fq3:=q3.frozen;have HRR:=hid hrr;clear hrr;cases r)
     · have hno:¬ NodeR y:=fun h=>by have:=HRR.out.2 h;cases this
       refine ⟨((k1.trans ⟨hB2.size,fun k o ho _=>(hB2.block k (Array.getElem?_eq_some_iff.1 ho).1).trans ho⟩).trans (KeepsOthers.setCell _ _ _)).from _,?_,?_,?_,⟨1,q3.set _,SaidAt.no hno⟩,by rw [hl1];omega,?_⟩
       · exact (kp1.trans (fun k o _ _ ho=>(hB2.block k (Array.getElem?_eq_some_iff.1 ho).1).trans ho)).trans (Kp.set _ (by simp;omega))
       · exact (Boxed.kept_of e1 hB2 (Boxed.lt e1)).other (by omega) _
       · rw [hl1];exact (Boxed.kept_of e2 hB2 (Boxed.lt e2)).other (by omega) _
       · exact (b1.trans (hB2.mono b1.size)).setCell (p:=⟨w.heap.size+1+1+1,0,none⟩) (by simp;omega) _
     · have hyes:NodeR y:=HRR.out.1 (by first | rfl | trivial)
       refine ⟨(k1.trans ⟨hB2.size,fun k o ho _=>(hB2.block k (Array.getElem?_eq_some_iff.1 ho).1).trans ho⟩).from _,?_,?_,?_,⟨sd,q3,h4.yes hyes⟩,by rw [hl1];omega,?_⟩
       · exact kp1.trans (fun k o _ _ ho=>(hB2.block k (Array.getElem?_eq_some_iff.1 ho).1).trans ho)
       · exact Boxed.kept_of e1 hB2 (Boxed.lt e1)
       · rw [hl1];exact Boxed.kept_of e2 hB2 (Boxed.lt e2)
       · exact b1.trans (hB2.mono b1.size)
 · rintro D W hD ⟨h1,h2,⟨sd,h3,h4⟩,h5,h6⟩ hK
   rw [length_vis] at h5
   have c1:=h1.cell
   have f1:=h1.frozen
   have c3:=h3.cell
   have hK':(W.setCell ⟨w.heap.size+1,0,none⟩ (.int .i64 sd)).heap[D]? = some (.deferred (some [])):=(KeepsOthers.setCell _ _ _).same D _ hK rfl
   have hc5:=cell_kept (h1.set (.int .i64 sd)).cell (grownBy_putObj' _ D (.deferred none)) (fun r e=>by cases e;exact ⟨_,hK',rfl⟩)
   gi_wp2
   refine ⟨by simp,.inl ⟨_,_,rfl,run_takeDeferred hK',?_⟩⟩
   refine ⟨.int .i64 sd,?_,sd,rfl,?_,(h6.setCell (p:=⟨w.heap.size+1,0,none⟩) (by simp) _).trans (belowK_b (w:=w) (Nat.le_refl _) _ D _ _ (by omega) hK' rfl rfl)⟩
   · simp [results,Tryz.f98,go_sem,hc5]
   · rcases h4 with ⟨e,h⟩ | ⟨e,h⟩
     · exact .inr (.inl ⟨h5,(treeR_vis x 1).2 h,e⟩)
     · exact .inr (.inr ⟨h5,fun t=>h ((treeR_vis x 1).1 t),e⟩)
 · rintro D c W hD ⟨rfl,h0,h1,h2⟩ hK
   have hc5:=cell_kept h1.cell (grownBy_putObj' _ D (.deferred none)) (fun r e=>by cases e;exact ⟨_,hK,rfl⟩)
   gi_wp2
   refine ⟨by simp,.inl ⟨_,_,rfl,run_takeDeferred hK,?_⟩⟩
   refine ⟨.int .i64 2,?_,2,rfl,.inl ⟨h0,rfl⟩,h2.trans (belowK_b (w:=w) (Nat.le_refl _) _ D _ _ (by omega) hK rfl rfl)⟩
   simp [results,Tryz.f98,go_sem,hc5]
theorem checkX_any (x:X) (w:World) (hX:IsX w x):Calls Tryz.prog 98 #[x.val] w fun e w'=>∃ r:Int,e=.returned (.int .i64 r)∧ChkX x r∧Below w.heap.size w w' :=
 (callsIn_wide (n:=3)).1 (check_in 3 x w hX)
open Go.Sort
def bs (s:ByteArray):List UInt8:=s.data.toList
theorem bs_mk (s:ByteArray):(⟨(bs s).toArray⟩:ByteArray)=s:=by simp [bs]
theorem mk_bs (l:List UInt8):bs ⟨l.toArray⟩=l:=by simp [bs]
theorem bs_list (s:ByteArray):s.toList=bs s:=by rw [ByteArray.toList_eq];rfl
theorem lt_bytes (x y:List UInt8):decide (x < y)=Op.bytesLess x y:=(bytesLess_eq x y).symm
theorem le_bytes (x y:List UInt8):decide (x≤y)=!Op.bytesLess y x:=by
 rw [← lt_bytes]
 by_cases h:y < x
 · have:¬ x≤y:=fun e=>e h
   simp [h,this]
 · have:x≤y:=h
   simp [h,this]
theorem less_le {l m r:List UInt8} (h1:Op.bytesLess m l=false) (h2:Op.bytesLess r m=false):Op.bytesLess r l=false:=by
 cases h:Op.bytesLess r l with
 | false=>rfl
 | true =>
   by_cases e:l=m
   · rw [← e,h] at h2;cases h2
   · have h3:=less_total l m e
     rw [h1] at h3
     have h4:=less_trans _ _ _ h h3
     rw [h4] at h2;cases h2
theorem cmp_bytes (a b:ByteArray):cmpS a b < 0 ↔ Op.bytesLess (bs a) (bs b)=true:=by
 rcases cmpS_cases a b with ⟨h,h1,_⟩ | ⟨h,h1⟩ | ⟨h,h1,_⟩
 · rw [h,← bs_list,← bs_list];simp [h1]
 · rw [bs_list,bs_list] at h1
   rw [h,h1,less_irrefl];simp
 · rw [bs_list,bs_list] at h1
   rw [h]
   constructor
   · intro h;omega
   · intro h2
     have:=less_trans _ _ _ h1 h2
     rw [less_irrefl] at this
     cases this
def sortB (l:List (List UInt8)):List (List UInt8):=l.mergeSort fun x y=>decide (x≤y)
theorem sortB_le (l:List (List UInt8)):(sortB l).Pairwise fun x y=>Op.bytesLess y x=false:=by
 have h:=List.pairwise_mergeSort (le:=fun (x y:List UInt8)=>decide (x≤y)) (fun a b c h1 h2=>by
  rw [le_bytes] at h1 h2 ⊢
  simp at h1 h2 ⊢
  exact less_le h1 h2) (fun a b=>by
  rw [le_bytes,le_bytes]
  by_cases e:a=b
  · subst e;simp [less_irrefl]
  · have:=less_total a b e
    cases h:Op.bytesLess b a <;> simp_all) l
 exact h.imp fun h=>by rw [le_bytes] at h;simpa using h
theorem sortB_mem (l:List (List UInt8)) (x:List UInt8):x ∈ sortB l ↔ x ∈ l:=List.mem_mergeSort
theorem sortB_len (l:List (List UInt8)):(sortB l).length=l.length:=List.length_mergeSort l
theorem compact_mem (d:Array (List UInt8)) (x:List UInt8):∀ m,x ∈ Lib.compactUpTo d m ↔ ∃ j,j < m∧d[j]! = x
 | 0=>by simp [Lib.compactUpTo]
 | m+1=>by
   rw [Lib.compactUpTo_succ,List.mem_append,compact_mem d x m]
   constructor
   · rintro (⟨j,hj,e⟩ | h)
     · exact ⟨j,by omega,e⟩
     · split at h
       · simp at h;exact ⟨m,by omega,h.symm⟩
       · simp at h
   · rintro ⟨j,hj,e⟩
     by_cases hjm:j < m
     · exact .inl ⟨j,hjm,e⟩
     · obtain rfl:j=m:=by omega
       by_cases hk:Lib.keeps d j=true
       · exact .inr (by rw [if_pos hk];simp [e])
       · simp [Lib.keeps] at hk
         exact .inl ⟨j - 1,by omega,by rw [← hk.2];exact e⟩
theorem compact_less (d:Array (List UInt8)) (n:Nat) (hs:∀ i j,i < j→j < n→Op.bytesLess d[j]! d[i]! = false):∀ m,m≤n→(Lib.compactUpTo d m).Pairwise fun x y=>Op.bytesLess x y=true
 | 0,_=>by simp [Lib.compactUpTo]
 | m+1,hm=>by
   rw [Lib.compactUpTo_succ]
   by_cases hk:Lib.keeps d m=true
   · rw [if_pos hk,List.pairwise_append]
     refine ⟨compact_less d n hs m (by omega),by simp,fun x hx y hy=>?_⟩
     simp at hy
     subst hy
     obtain ⟨j,hj,rfl⟩:=(compact_mem d x m).1 hx
     simp [Lib.keeps] at hk
     have h1:=hs (m - 1) m (by omega) (by omega)
     have h2:Op.bytesLess d[m - 1]! d[m]! = true:=by
      have:=less_total d[m - 1]! d[m]! (fun e=>(hk.resolve_left (by omega)) e.symm)
      rw [h1] at this
      exact this
     by_cases e:j=m - 1
     · rw [e];exact h2
     · have h3:=hs j (m - 1) (by omega) (by omega)
       by_cases e2:d[j]! = d[m - 1]!
       · rw [e2];exact h2
       · have h4:=less_total d[j]! d[m - 1]! e2
         rw [h3] at h4
         exact less_trans _ _ _ h4 h2
   · rw [if_neg hk,List.append_nil]
     exact compact_less d n hs m (by omega)
def onceB (l:List (List UInt8)):List (List UInt8):=Lib.compact (sortB l)
theorem onceB_mem (l:List (List UInt8)) (x:List UInt8):x ∈ onceB l ↔ x ∈ l:=by
 unfold onceB Lib.compact
 rw [compact_mem,← sortB_mem l]
 constructor
 · rintro ⟨j,hj,rfl⟩
   simp [hj]
 · intro h
   obtain ⟨j,hj,e⟩:=List.getElem_of_mem h
   exact ⟨j,hj,by simp [hj,e]⟩
theorem onceB_less (l:List (List UInt8)):(onceB l).Pairwise fun x y=>Op.bytesLess x y=true:=by
 unfold onceB Lib.compact
 refine compact_less _ _ (fun i j hij hj=>?_) _ (Nat.le_refl _)
 have h:=List.pairwise_iff_getElem.1 (sortB_le l) i j (by omega) hj hij
 simpa [show i < (sortB l).length by omega,hj] using h
theorem onceB_len (l:List (List UInt8)):(onceB l).length≤l.length:=by
 unfold onceB Lib.compact
 rw [← sortB_len l]
 unfold Lib.compactUpTo
 rw [List.length_map]
 exact Nat.le_trans (List.length_filter_le _ _) (by simp)
theorem sorted_of:∀ l:List (List UInt8),(l.Pairwise fun x y=>Op.bytesLess x y=true)→Sorted (l.map fun x=>(⟨x.toArray⟩:ByteArray))
 | [],_=>trivial
 | a :: l,h=>by
   rw [List.pairwise_cons] at h
   refine ⟨fun b hb=>?_,sorted_of l h.2⟩
   obtain ⟨y,hy,rfl⟩:=List.mem_map.1 hb
   rw [cmp_bytes,mk_bs,mk_bs]
   exact h.1 y hy
theorem once_vars (x:X) (l:List ByteArray) (h:∀ t,t ∈ l ↔ hasVar t x):(onceB (l.map bs)).map (fun x=>(⟨x.toArray⟩:ByteArray))=varsX x:=by
 refine vars_one _ x (sorted_of _ (onceB_less _)) fun t=>?_
 rw [← h t,List.mem_map]
 constructor
 · rintro ⟨y,hy,rfl⟩
   rw [onceB_mem,List.mem_map] at hy
   obtain ⟨s,hs,rfl⟩:=hy
   rw [bs_mk]
   exact hs
 · intro ht
   exact ⟨bs t,by rw [onceB_mem];exact List.mem_map_of_mem ht,bs_mk t⟩
attribute [local go_sem] Oper.semAt_some
def nmL (l:List (Int × X)):List ByteArray:=(l.filter fun v=>decide (v.2.k=2)).map fun v=>v.2.s
theorem nmL_hit (l:List (Int × X)) (d:Int) (y:X) (h:y.k=2):nmL (l ++ [(d,y)])=nmL l ++ [y.s]:=by simp [nmL,h]
theorem nmL_miss (l:List (Int × X)) (d:Int) (y:X) (h:¬ y.k=2):nmL (l ++ [(d,y)])=nmL l:=by simp [nmL,h]
theorem nmL_len (l:List (Int × X)):(nmL l).length≤l.length:=by
 unfold nmL
 rw [List.length_map]
 exact List.length_filter_le _ _
theorem mem_cat {α:Type} (f:Nat→List α) (v:α):∀ n,v ∈ catN f n ↔ ∃ i,i < n∧v ∈ f i
 | 0=>by simp [catN]
 | n+1=>by
   simp only [catN,List.mem_append,mem_cat f v n]
   constructor
   · rintro (⟨i,hi,h⟩ | h)
     · exact ⟨i,by omega,h⟩
     · exact ⟨n,by omega,h⟩
   · rintro ⟨i,hi,h⟩
     by_cases e:i=n
     · exact .inr (e ▸ h)
     · exact .inl ⟨i,by omega,h⟩
theorem mem_nm (t:ByteArray) (l:List (Int × X)):t ∈ nmL l ↔ ∃ v,v ∈ l∧v.2.k=2∧v.2.s=t:=by
 simp only [nmL,List.mem_map,List.mem_filter,decide_eq_true_eq]
 constructor
 · rintro ⟨v,⟨h1,h2⟩,h3⟩
   exact ⟨v,h1,h2,h3⟩
 · rintro ⟨v,h1,h2,h3⟩
   exact ⟨v,⟨h1,h2⟩,h3⟩
theorem mem_vis (t:ByteArray):∀ (x:X) (d:Int),t ∈ nmL (visX d x) ↔ hasVar t x:=by
 refine X.ind fun x ih d=>?_
 rw [mem_nm,hasVar_eq,visX_eq]
 constructor
 · rintro ⟨v,hv,h1,h2⟩
   rcases List.mem_cons.1 hv with rfl | hv
   · exact .inl ⟨h1,h2⟩
   · obtain ⟨i,hi,h⟩:=(mem_cat _ _ _).1 hv
     exact .inr ⟨i,hi,(ih i hi _).1 ((mem_nm _ _).2 ⟨v,h,h1,h2⟩)⟩
 · rintro (⟨h1,h2⟩ | ⟨i,hi,h⟩)
   · exact ⟨(d,x),List.mem_cons_self,h1,h2⟩
   · obtain ⟨v,h0,h1,h2⟩:=(mem_nm _ _).1 ((ih i hi (IntKind.i64.wrap (d+1))).2 h)
     exact ⟨v,List.mem_cons_of_mem _ ((mem_cat _ _ _).2 ⟨i,hi,h0⟩),h1,h2⟩
theorem Ag.owns {B:Nat} {W A:World} (h:Ag B W A) {b e k m:Nat} {v:Value} {xs:List Value} (ho:W.ownsRow b e k v m xs):A.ownsRow b e k v m xs:=by
 refine ⟨ho.1,?_⟩
 rcases ho.2 with h2 | ⟨g,cap,cur,e1,hg,h3,h4⟩
 · exact .inl h2
 · exact .inr ⟨g,cap,cur,e1,hg,(h.cells _ _ rfl).2 h3,h4⟩
theorem own_low {w:World} {B B' e k n:Nat} {v:Value} {xs:List Value} (h:w.ownsRow B e k v n xs) (hB:B'≤B):w.ownsRow B' e k v n xs:=by
 refine ⟨h.1,?_⟩
 rcases h.2 with h2 | ⟨g,cap,cur,e1,hg,h3⟩
 · exact .inl h2
 · exact .inr ⟨g,cap,cur,e1,Nat.le_trans hB hg,h3⟩
theorem compact_once {W2:World} {base g n cap:Nat} {x:X} {zs:List (List UInt8)} (ho:W2.ownsRow base 9 1 (.slice (some ⟨g,0,none⟩) n cap) n ((sortB zs).map encStr)) (hone:(onceB zs).map (fun x=>(⟨x.toArray⟩:ByteArray))=varsX x) (hl:(sortB zs).length=n) (hnc:n≤cap) (hcm:n≤9223372036854775807) :
 Calls Tryz.prog 97 #[.slice (some ⟨g,0,none⟩) n cap] W2 fun e w'=>e=.returned (.slice (some ⟨g,0,none⟩) (varsX x).length cap)∧w'.ownsRow base 9 1 (.slice (some ⟨g,0,none⟩) (varsX x).length cap) (varsX x).length (cellsS (varsX x))∧W2.grownBy w' (some g):=by
 obtain ⟨g2,cap2,e,hb,hgl,_,_,_,hH⟩:=Lib.holds_of_ownsRow (enc:=encStr) (zs:=sortB zs) ho (by simp)
 injection e with e1 _ e3
 injection e1 with e1
 injection e1 with e1
 subst e1 e3
 have h:=Any.slices_Compact_string Tryz.lays194 g 0 cap (sortB zs) W2 hH (by omega) (by omega)
 rw [hl] at h
 have hvl:(varsX x).length=(onceB zs).length:=by rw [← hone,List.length_map]
 have hcl:(onceB zs).length≤n:=by have:=onceB_len zs;rw [sortB_len] at hl;omega
 refine h.mono ?_
 rintro e w' ⟨rfl,q,rfl⟩
 refine ⟨by rw [hvl];rfl,?_,?_⟩
 · have:=Lib.ownsRow_putRow (q:=q) (k:=(onceB zs).length) (ys:=onceB zs ++ List.replicate (n - (onceB zs).length) []) ho (by simp;omega) hcl
   rw [List.take_left] at this
   rw [hvl,show cellsS (varsX x)=(onceB zs).map encStr by rw [← hone,cellsS,List.map_map];rfl]
   exact this
 · have:=grownBy_sorted (w:=W2) (g:=g) (n:=q) (os:=#[]) (onceB zs ++ List.replicate (n - (onceB zs).length) []).toArray
   rw [grow_empty] at this
   exact this
theorem vars_in (n:Nat) (x:X) (w:World) (hX:IsX w x) (hsm:x.size≤1048576) :
 CallsIn Fence.wide n Tryz.prog 43 #[x.val] w fun e w'=>∃ v,e=.returned v∧w'.ownsRow w.heap.size 9 1 v (varsX x).length (cellsS (varsX x))∧Below w.heap.size w w':=by
 have hdd:∀ k:Nat,(Fence.wide.depth.isSome=true→1≤k):=fun k h=>by cases h
 obtain ⟨i0,hi,hz0,hz1,hz2⟩:=info_parts infoS
 refine callsIn_of_wp_marks Tryz.func43 rfl trivial ?_ rfl
 simp only [Tryz.ntmps43,List.size_toArray,List.length_cons,List.length_nil,Nat.reduceAdd,Nat.reduceSub,Array.replicate_succ,Array.replicate_zero,List.push_toArray,List.append_toArray,List.nil_append,List.cons_append]
 gi_wp2_with (refine ⟨trivial,hdd _,?_⟩;gi_at_call 96;refine (nodes_in _ _ _).mono ?_;rintro e w' ⟨rfl,rfl⟩)
 obtain ⟨A,hA⟩:∃ A,(((w.alloc (.cells x.cells 54)).alloc (.cells #[.slice none 0 0] 37)).alloc (.cells #[.pointer (some ⟨w.heap.size,0,none⟩)] 157))=A:=⟨_,rfl⟩
 have hsz:A.heap.size=w.heap.size+3:=by rw [← hA];simp
 have hB:Below w.heap.size w A:=by rw [← hA];exact ((nwB w _).alloc (by simp) _).alloc (by simp;omega) _
 have hnode:Node A w.heap.size 0 x:=by
  rw [← hA]
  exact ((node_new w 54 x).later (nwB _ _)).later (nwB _ _)
 have hbn:Boxed A (w.heap.size+1) 37 (.slice none 0 0):=by
  have:=(Boxed.new (w.alloc (.cells x.cells 54)) 37 (.slice none 0 0)).alloc (.cells #[.pointer (some ⟨w.heap.size,0,none⟩)] 157)
  rw [World.size_alloc,hA] at this
  exact this
 have hbp:Boxed A (w.heap.size+1+1) 157 (.pointer (some ⟨w.heap.size,0,none⟩)):=by
  have:=Boxed.new ((w.alloc (.cells x.cells 54)).alloc (.cells #[.slice none 0 0] 37)) 157 (.pointer (some ⟨w.heap.size,0,none⟩))
  rw [World.size_alloc,World.size_alloc,hA] at this
  exact this
 rw [hA]
 refine nodes_fold (w.heap.size+1+1) w.heap.size 0 x (fun k=>k < w.heap.size+1)
  (fun pre W=>(∃ v,Boxed W (w.heap.size+1) 37 v∧W.ownsRow (w.heap.size+7) 9 1 v (nmL pre).length (cellsS (nmL pre)))∧Below w.heap.size w W) (fun _ _=>False)
  rfl rfl hbp.cell (fun k hk=>by omega) (by omega) hnode (XIn.xt (n:=w.heap.size) (fun k hk=>by omega) (hX.inn.below hB)) ?_ ?_ ?_ ?_
  (fun d b o=>{ tmps:=#[x.val,.pointer (some ⟨w.heap.size,0,none⟩),.slice none 0 0,.pointer (some ⟨w.heap.size+1,0,none⟩),undef,.pointer (some ⟨b,o,none⟩),.func (.func 136) #[] #[.pointer (some ⟨w.heap.size+1+1,0,none⟩)],.int .i64 d,.pointer (some ⟨b,o,none⟩),undef,undef,undef,undef,undef,undef,undef,undef,undef,undef,undef,undef,undef,undef,undef,undef],defers:=[] }) ?_ ?_ ?_ ?_
 · rintro pre W B hag ⟨⟨v,h1,h2⟩,h3⟩
   exact ⟨⟨v,hag.boxed h1,hag.owns h2⟩,hag.below (by omega) h3⟩
 · exact fun pre W h=>⟨h.1,h.2.drew⟩
 · exact fun W h=>⟨⟨_,Boxed.kept_of hbn h (by omega),World.ownsRow_nil _ _ _ _⟩,hB.trans (h.mono (by omega))⟩
 · exact fun _ _ _ _ h=>h
 · intro l d b o W K hK
   gi_wp2
   first | exact hK | simpa using hK
 · rintro l d b o y pre W hb hn hx ⟨⟨v,h1,h2⟩,h3⟩ hs hlt
   have c1:=h1.cell
   have f1:=h1.frozen
   obtain ⟨d0,d1,d2,d3,d4,d5,d6⟩:=hn
   have hpl:=nmL_len pre
   rw [length_vis] at hlt
   by_cases hk:y.k=2
   · have hk':(y.k == 2)=true:=by simpa using hk
     have hW2:W.heap.size≤(W.alloc (.cells #[.string y.s] 9)).drew.heap.size:=by show W.heap.size≤(W.alloc _).heap.size;simp
     have hr0:(W.alloc (.cells #[.string y.s] 9)).drew.ownsRow (w.heap.size+7) 9 1 v (nmL pre).length (cellsS (nmL pre)):=(h2.alloc _).drew
     obtain ⟨v',w1,hrun,hown',hgrow,hnil',hblk⟩:=run_append_own_at (P:=Tryz.prog) (w:=(W.alloc (.cells #[.string y.s] 9)).drew) (w.heap.size+7) 37 37 9 i0 (.string ⟨#[]⟩) 1 16 Tryz.underlying37 hi hz0 hz1 hz2 rfl (by decide) v _ _ hr0 ⟨W.heap.size,0,none⟩ 1 1 [.string y.s] rfl
      (cell_one_new W (.string y.s) 9) (by simp [Value.oneCell']) (by unfold maxLen;omega) (by omega) (by omega)
     obtain ⟨g',cap',rfl⟩:=ownsRow_succ hown'
     have hg':(W.alloc (.cells #[.string y.s] 9)).grownBy w1 v.ownBlock:=⟨hgrow.os,hgrow.tape,hgrow.output,hgrow.size,hgrow.block⟩
     have hv1:Boxed w1 (w.heap.size+1) 37 v:=(h1.alloc _).kept hg' (h1.not_row (by decide) h2)
     have c1':=(h1.alloc (.cells #[.string y.s] 9)).cell
     have c2:=hv1.cell
     have f2:=hv1.frozen
     have fin:KeepsFrom A.heap.size W (w1.setCell ⟨w.heap.size+1,0,none⟩ (.slice (some ⟨g',0,none⟩) ((nmL pre).length+1) cap'))∧Kp (fun k=>k < w.heap.size+1 ∨ k=A.heap.size+2 ∨ k=A.heap.size+3) W (w1.setCell ⟨w.heap.size+1,0,none⟩ (.slice (some ⟨g',0,none⟩) ((nmL pre).length+1) cap')) ∧
      ((∃ v,Boxed (w1.setCell ⟨w.heap.size+1,0,none⟩ (.slice (some ⟨g',0,none⟩) ((nmL pre).length+1) cap')) (w.heap.size+1) 37 v∧(w1.setCell ⟨w.heap.size+1,0,none⟩ (.slice (some ⟨g',0,none⟩) ((nmL pre).length+1) cap')).ownsRow (w.heap.size+7) 9 1 v (nmL (pre ++ [(d,y)])).length (cellsS (nmL (pre ++ [(d,y)])))) ∧
        Below w.heap.size w (w1.setCell ⟨w.heap.size+1,0,none⟩ (.slice (some ⟨g',0,none⟩) ((nmL pre).length+1) cap'))):=by
      refine ⟨(((KeepsOthers.alloc W _).trans (KeepsOthers.of_grownBy hg' fun j o ej hj=>?_)).trans (KeepsOthers.setCell _ _ _)).from _,?_,⟨_,hv1.set _,?_⟩,?_⟩
      · rcases (h2.alloc _).2 with ⟨rfl,_⟩ | ⟨g,cap,cur,rfl,_,hgb,_⟩
        · simp [Value.ownBlock] at ej
        · obtain rfl:g=j:=by simpa [Value.ownBlock] using ej
          rw [hgb] at hj;cases hj;rfl
      · intro k o hk _ e
        have hkl:k < w.heap.size+7∧k ≠ w.heap.size+1:=by omega
        refine (Below.heap_setCell w1 ⟨w.heap.size+1,0,none⟩ _ k hkl.2).trans ((hg'.block k ?_ (row_ne_low h2 hkl.1)).trans ((Below.heap_alloc W _ k (Array.getElem?_eq_some_iff.1 e).1).trans e))
        have:=(Array.getElem?_eq_some_iff.1 e).1
        simp
        omega
      · rw [nmL_hit _ _ _ hk,List.length_append,cellsS,List.map_append]
        exact hown'.kept (grownBy_setCell' w1 (w.heap.size+1) _) (.inr (hv1.not_row (by decide) hown').symm)
      · refine ((h3.alloc h3.size _).grown hg' (by have:=h3.size;simp;omega) fun j ej=>?_).setCell (p:=⟨w.heap.size+1,0,none⟩) (by simp) _
        have:=(h2.lt j ej).1
        omega
     gi_wp2
     refine wpIn_region_any (by kernel_rfl) ?_
     try (change wpAnyIn _ _ _ _ _ _ _ _ _ (World.drew _))
     refine wpAnyIn_ready (rs:=[0,1]) (by kernel_rfl) (by simp) ?_
     refine AllReadyIn.cons rfl (fun K hK=>?_) ?_
     · go_simp
       refine hK _ _ ?_
       clear hK K
       refine ri 1 fun K hK=>?_
       go_simp
       refine hK _ _ ?_
       clear hK K
       refine ri 2 fun K hK=>?_
       go_simp
       refine hK _ _ ?_
       clear hK K
       refine ri 3 fun K hK=>?_
       go_simp
       refine hK _ _ ?_
       clear hK K
       refine ri 4 fun K hK=>?_
       go_simp
       refine hK _ _ ?_
       clear hK K
       refine ri 5 fun K hK=>?_
       go_simp
       refine hK _ _ ?_
       clear hK K
       refine ri 6 fun K hK=>?_
       rw [if_pos (by rfl)]
       refine wpOpIn_append_run (.tmp 14) (.tmp 19) 37 rfl _ _ _ rfl rfl hrun ?_
       refine hK _ _ ?_
       clear hK K
       refine ri 7 fun K hK=>?_
       go_simp
       refine hK _ _ ?_
       clear hK K
       refine wpAnyIn_done (by kernel_rfl) ?_ _
       exact fin
     refine AllReadyIn.cons rfl (fun K hK=>?_) AllReadyIn.nil
     go_simp
     refine hK _ _ ?_
     clear hK K
     refine wpAnyIn_ready (rs:=[0,2]) (by kernel_rfl) (by simp) ?_
     refine AllReadyIn.cons rfl (fun K hK=>?_) ?_
     · go_simp
       refine hK _ _ ?_
       clear hK K
       refine ri 2 fun K hK=>?_
       go_simp
       refine hK _ _ ?_
       clear hK K
       refine ri 3 fun K hK=>?_
       go_simp
       refine hK _ _ ?_
       clear hK K
       refine ri 4 fun K hK=>?_
       go_simp
       refine hK _ _ ?_
       clear hK K
       refine ri 5 fun K hK=>?_
       go_simp
       refine hK _ _ ?_
       clear hK K
       refine ri 6 fun K hK=>?_
       rw [if_pos (by rfl)]
       refine wpOpIn_append_run (.tmp 14) (.tmp 19) 37 rfl _ _ _ rfl rfl hrun ?_
       refine hK _ _ ?_
       clear hK K
       refine ri 7 fun K hK=>?_
       go_simp
       refine hK _ _ ?_
       clear hK K
       refine wpAnyIn_done (by kernel_rfl) ?_ _
       exact fin
     refine AllReadyIn.cons rfl (fun K hK=>?_) AllReadyIn.nil
     go_simp
     refine hK _ _ ?_
     clear hK K
     refine wpAnyIn_ready (rs:=[0,3]) (by kernel_rfl) (by simp) ?_
     refine AllReadyIn.cons rfl (fun K hK=>?_) ?_
     · go_simp
       refine hK _ _ ?_
       clear hK K
       refine ri 3 fun K hK=>?_
       go_simp
       refine hK _ _ ?_
       clear hK K
       refine ri 4 fun K hK=>?_
       go_simp
       refine hK _ _ ?_
       clear hK K
       refine ri 5 fun K hK=>?_
       go_simp
       refine hK _ _ ?_
       clear hK K
       refine ri 6 fun K hK=>?_
       rw [if_pos (by rfl)]
       refine wpOpIn_append_run (.tmp 14) (.tmp 19) 37 rfl _ _ _ rfl rfl hrun ?_
       refine hK _ _ ?_
       clear hK K
       refine ri 7 fun K hK=>?_
       go_simp
       refine hK _ _ ?_
       clear hK K
       refine wpAnyIn_done (by kernel_rfl) ?_ _
       exact fin
     refine AllReadyIn.cons rfl (fun K hK=>?_) AllReadyIn.nil
     go_simp
     refine hK _ _ ?_
     clear hK K
     refine wpAnyIn_ready (rs:=[0,4]) (by kernel_rfl) (by simp) ?_
     refine AllReadyIn.cons rfl (fun K hK=>?_) ?_
     · go_simp
       refine hK _ _ ?_
       clear hK K
       refine ri 4 fun K hK=>?_
       go_simp
       refine hK _ _ ?_
       clear hK K
       refine ri 5 fun K hK=>?_
       go_simp
       refine hK _ _ ?_
       clear hK K
       refine ri 6 fun K hK=>?_
       rw [if_pos (by rfl)]
       refine wpOpIn_append_run (.tmp 14) (.tmp 19) 37 rfl _ _ _ rfl rfl hrun ?_
       refine hK _ _ ?_
       clear hK K
       refine ri 7 fun K hK=>?_
       go_simp
       refine hK _ _ ?_
       clear hK K
       refine wpAnyIn_done (by kernel_rfl) ?_ _
       exact fin
     refine AllReadyIn.cons rfl (fun K hK=>?_) AllReadyIn.nil
     go_simp
     refine hK _ _ ?_
     clear hK K
     refine wpAnyIn_ready (rs:=[0,5]) (by kernel_rfl) (by simp) ?_
     refine AllReadyIn.cons rfl (fun K hK=>?_) ?_
     · go_simp
       refine hK _ _ ?_
       clear hK K
       refine ri 5 fun K hK=>?_
       go_simp
       refine hK _ _ ?_
       clear hK K
       refine ri 6 fun K hK=>?_
       rw [if_pos (by rfl)]
       refine wpOpIn_append_run (.tmp 14) (.tmp 19) 37 rfl _ _ _ rfl rfl hrun ?_
       refine hK _ _ ?_
       clear hK K
       refine ri 7 fun K hK=>?_
       go_simp
       refine hK _ _ ?_
       clear hK K
       refine wpAnyIn_done (by kernel_rfl) ?_ _
       exact fin
     refine AllReadyIn.cons rfl (fun K hK=>?_) AllReadyIn.nil
     go_simp
     refine hK _ _ ?_
     clear hK K
     refine ri 0 fun K hK=>?_
     go_simp
     refine hK _ _ ?_
     clear hK K
     refine ri 6 fun K hK=>?_
     rw [if_pos (by rfl)]
     refine wpOpIn_append_run (.tmp 14) (.tmp 19) 37 rfl _ _ _ rfl rfl hrun ?_
     refine hK _ _ ?_
     clear hK K
     refine ri 7 fun K hK=>?_
     go_simp
     refine hK _ _ ?_
     clear hK K
     refine wpAnyIn_done (by kernel_rfl) ?_ _
     exact fin
   · have hk':(y.k == 2)=false:=by simpa using hk
     gi_wp2
     exact ⟨KeepsFrom.refl _ _,Kp.refl _ _,⟨v,h1,by rw [nmL_miss _ _ _ hk];exact h2⟩,h3⟩
 · rintro D W hD ⟨⟨v,h1,h2⟩,h3⟩ hK
   have hone:=once_vars x (nmL (visX 1 x)) fun t=>mem_vis t x 1
   have hlen:(nmL (visX 1 x)).length≤1048576:=by have:=nmL_len (visX 1 x);rw [length_vis] at this;omega
   obtain ⟨L,hL⟩:∃ L,L=nmL (visX 1 x):=⟨_,rfl⟩
   rw [← hL] at h2 hone hlen
   clear hL
   have c1:=h1.cell
   by_cases hv:v=.slice none 0 0
   · subst hv
     have hl0:L=[]:=by
      rcases h2.2 with ⟨_,e⟩ | ⟨g,cap,cur,e,_⟩
      · exact List.eq_nil_of_length_eq_zero e
      · cases e
     subst hl0
     have hone':varsX x=[]:=by
      rw [← hone,List.eq_nil_of_length_eq_zero (Nat.le_zero.1 (onceB_len (List.map bs [])))]
      rfl
     have s1:Calls Tryz.prog 92 #[.slice none 0 0] W fun e w'=>e=.returned (.tuple #[])∧w'=W:=Any.slices_Sort_string_none Tryz.lays190 none 0 W
     have s2:Calls Tryz.prog 97 #[.slice none 0 0] W fun e w'=>e=.returned (.slice none 0 0)∧w'=W:=Any.slices_Compact_string_empty Tryz.lays194 none 0 W
     gi_wp2_with (first
      | (refine ⟨trivial,hdd _,?_⟩;gi_at_call 92;refine (callsIn_wide.2 s1).mono ?_;rintro e w2 ⟨rfl,hw2⟩;replace hw2:=hw2.symm;subst hw2)
      | (refine ⟨trivial,hdd _,?_⟩;gi_at_call 97;refine (callsIn_wide.2 s2).mono ?_;rintro e w2 ⟨rfl,hw2⟩;replace hw2:=hw2.symm;subst hw2))
     refine ⟨by simp,.inl ⟨_,_,rfl,run_takeDeferred hK,?_⟩⟩
     exact ⟨_,results_tmp rfl _ _ _,_,rfl,by rw [hone'];exact World.ownsRow_nil _ _ _ _,h3.trans (belowK_b (w:=w) (Nat.le_refl _) W D _ _ (by omega) hK rfl rfl)⟩
   · have hm:(L.map bs).map encStr=cellsS L:=by rw [cellsS,← Lib.map_encStr];rfl
     have h2':W.ownsRow (w.heap.size+7) 9 1 v L.length ((L.map bs).map encStr):=by rw [hm];exact h2
     obtain ⟨g,cap,rfl,hg,hgl,hnc,hcm,hzl,hH⟩:=Lib.holds_of_ownsRow h2' hv
     have hcur:∃ cur,W.heap[g]? = some (.cells cur 9 (0,0))∧cur.size=cap * 1:=by
      rcases h2.2 with ⟨e,_⟩ | ⟨g2,c2,cur,e,_,hc,_,_,hs,_⟩
      · cases e
      · injection e with e1 _ e3
        injection e1 with e1
        injection e1 with e1
        subst e1 e3
        exact ⟨cur,hc,hs⟩
     obtain ⟨cur,hc,hcs⟩:=hcur
     have s1:Calls Tryz.prog 92 #[.slice (some ⟨g,0,none⟩) L.length cap] W fun e w'=>e=.returned (.tuple #[])∧∃ n os,w'=grow (putRow encStr (Sort.ahead W n) g 0 (sortB (L.map bs)).toArray) os:=by
      have:=Any.slices_Sort_string Tryz.lays190 g 0 cap (L.map bs) W hH hgl (by simp;omega)
      rw [List.length_map] at this
      exact this
     have hsl:(sortB (L.map bs)).length=L.length:=by rw [sortB_len,List.length_map]
     have key:∀ n os,∃ W2,W2=grow (putRow encStr (Sort.ahead W n) g 0 (sortB (L.map bs)).toArray) os∧W.grownBy W2 (some g)∧W2.ownsRow (w.heap.size+7) 9 1 (.slice (some ⟨g,0,none⟩) L.length cap) L.length ((sortB (L.map bs)).map encStr):=by
      intro n os
      refine ⟨_,rfl,grownBy_sorted _,?_⟩
      have:=ownsRow_sorted (w:=W) (n:=n) (os:=os) (e:=9) (ss:=L.map bs) (ts:=sortB (L.map bs)) (by rw [sortB_len]) hg hc (by rw [List.length_map];omega) hcm hcs
      rw [List.length_map] at this
      exact this
     gi_wp2_with (first
      | (refine ⟨trivial,hdd _,?_⟩;gi_at_call 92;refine (callsIn_wide.2 s1).mono ?_;rintro e w2 ⟨rfl,nn,os,hw2⟩;obtain ⟨W2,hW2,hg2,ho2⟩:=key nn os;rw [← hW2] at hw2;replace hw2:=hw2.symm;subst hw2;clear hW2 key s1;have b2:=h1.kept hg2 (fun e=>by injection e with e;omega);have c2:=b2.cell)
      | (refine ⟨trivial,hdd _,?_⟩;gi_at_call 97;refine (callsIn_wide.2 (compact_once ho2 hone hsl hnc (by unfold maxLen at hcm;omega))).mono ?_;rintro e w3 ⟨rfl,ho3,hg3⟩))
     have hKg:∀ {V V':World},V.heap[D]? = some (.deferred (some []))→V.grownBy V' (some g)→(∃ cur,V.heap[g]? = some (.cells cur 9 (0,0)))→V'.heap[D]? = some (.deferred (some [])):=fun {V V'} q1 q2 q3=>by
      refine (q2.block D (Array.getElem?_eq_some_iff.1 q1).1 fun e=>?_).trans q1
      injection e with e
      rw [e] at q1
      obtain ⟨cur,q3⟩:=q3
      rw [q3] at q1
      cases q1
     have hcell:∀ {V:World} {m k:Nat} {zs:List Value},V.ownsRow (w.heap.size+7) 9 1 (.slice (some ⟨g,0,none⟩) m k) m zs→∃ cur,V.heap[g]? = some (.cells cur 9 (0,0)):=fun {V m k zs} h=>by
      rcases h.2 with ⟨e,_⟩ | ⟨g2,c2,cur,e,_,hc,_⟩
      · cases e
      · injection e with e1
        injection e1 with e1
        injection e1 with e1
        subst e1
        exact ⟨cur,hc⟩
     have hK2:=hKg hK hg2 ⟨cur,hc⟩
     have hK3:=hKg hK2 hg3 (hcell ho2)
     refine ⟨by simp,.inl ⟨_,_,rfl,run_takeDeferred hK3,?_⟩⟩
     have hB2:=h3.grown hg2 h3.size (fun k e=>by injection e with e;omega)
     have hB3:=hB2.grown hg3 hB2.size (fun k e=>by injection e with e;omega)
     refine ⟨_,results_tmp rfl _ _ _,_,rfl,own_low (ownsRow_putObj ho3 _ hK3 rfl) (by omega),hB3.trans (belowK_b (w:=w) (Nat.le_refl _) w3 D _ _ (by omega) hK3 rfl rfl)⟩
 · exact fun _ _ _ _ h _=>h.elim
theorem vars_any (x:X) (w:World) (hX:IsX w x) (hsm:x.size≤1048576):Calls Tryz.prog 43 #[x.val] w fun e w'=>∃ v,e=.returned v∧w'.ownsRow w.heap.size 9 1 v (varsX x).length (cellsS (varsX x))∧Below w.heap.size w w' :=
 (callsIn_wide (n:=3)).1 (vars_in 3 x w hX hsm)
attribute [local go_sem] Oper.semAt_some
theorem backward_in (n:Nat) (a:Option Addr) (m cap:Nat) (w:World) :
 CallsIn Fence.wide n Tryz.prog 150 #[.slice a m cap] w fun e w'=>e=.returned (.func (.func 179) #[] #[.pointer (some ⟨w.heap.size,0,none⟩)])∧w'=w.alloc (.cells #[.slice a m cap] 37):=by
 refine callsIn_of_wp Tryz.func150 rfl trivial ?_ rfl
 simp only [Tryz.ntmps150,List.size_toArray,List.length_cons,List.length_nil,Nat.reduceAdd,Nat.reduceSub,Array.replicate_succ,Array.replicate_zero,List.push_toArray,List.append_toArray,List.nil_append,List.cons_append]
 gi_wp2
 go_ret
 exact ⟨rfl,rfl⟩
theorem Txs.kept {T:Nat→Prop} {W W':World} (h:Kp T W W') {a:Option Addr} {n:Nat} {S:Nat→ByteArray} (hT:∀ b o,a=some ⟨b,o,none⟩→T b) (hx:Txs W a n S):Txs W' a n S:=fun h0=>by
 obtain ⟨b,o,e,hc⟩:=hx h0
 exact ⟨b,o,e,fun j hj=>h.cell (p:=⟨b,o+j,none⟩) (hT b o e) (hc j hj)⟩
theorem Txs.ag {B:Nat} {W A:World} (h:Ag B W A) {a:Option Addr} {n:Nat} {S:Nat→ByteArray} (hx:Txs W a n S):Txs A a n S:=fun h0=>by
 obtain ⟨b,o,e,hc⟩:=hx h0
 exact ⟨b,o,e,fun j hj=>(h.cell _).trans (hc j hj)⟩
end Go.Proofs.YtkfpgkohkhhlhaaGreatDoor
