/- Texts that the last one stands on. -/
import Derived.Test.YtkfpgkohkhhlhaaGreatDoorGWlAhead
set_option maxRecDepth 100000
set_option maxHeartbeats 8000000
namespace Go.Proofs.YtkfpgkohkhhlhaaGreatDoor
open Go.RowKit
def nmU (l:List Pt):List ByteArray:=(l.filter fun y=>!decide (y.k = 6)).map (·.s)
theorem nmU_app (l m:List Pt):nmU (l ++ m) = nmU l ++ nmU m:=by simp [nmU]
theorem nmW_app (l m:List Pt):nmW (l ++ m) = nmW l ++ nmW m:=by simp [nmW]
theorem nmU_len (l:List Pt):(nmU l).length ≤ l.length:=by rw [nmU,List.length_map];exact List.length_filter_le _ _
theorem nmU_cat (f:Nat→List Pt):∀ n,nmU (catN f n) = catN (fun i=>nmU (f i)) n
 | 0=>rfl
 | n + 1=>by simp only [catN];rw [nmU_app,nmU_cat f n]
theorem nmW_cat (f:Nat→List Pt):∀ n,nmW (catN f n) = catN (fun i=>nmW (f i)) n
 | 0=>rfl
 | n + 1=>by simp only [catN];rw [nmW_app,nmW_cat f n]
theorem nmW_uses:∀ x:Pt,nmW (ndP x) = nmU (usesP x):=by
 refine Pt.ind fun x ih=>?_
 rw [ndP_eq,usesP_eq,nmU_app,nmU_cat,show x :: catN (fun i=>ndP (x.c i)) x.n = [x] ++ catN (fun i=>ndP (x.c i)) x.n from rfl,nmW_app,nmW_cat,catN_congr ih]
 congr 1
 by_cases h1:x.k = 1
 · simp [nmW,nmU,isAM,nmd,h1]
 · by_cases h5:x.k = 5
   · simp [nmW,nmU,isAM,nmd,h5]
   · by_cases h6:x.k = 6
     · simp [nmW,nmU,isAM,nmd,h6]
     · simp [nmW,nmU,isAM,nmd,h1,h5,h6]
def rowN (f:Pt):List ByteArray:=intoAll [] (nmW (ndF f))
theorem rowN_pre (x:Pt) (i:Nat):rowN (preF x i) = intoAll [] (nmU (catN (fun q=>usesP (x.c q)) i)):=by
 unfold rowN
 congr 1
 show nmW (catN (fun q=>ndP (x.c q)) i) = _
 rw [nmW_cat,nmU_cat,catN_congr fun q _=>nmW_uses (x.c q)]
def ahL (s:ByteArray) (x:Pt):List (List ByteArray):=(frA s x).map rowN
def ahP (s:ByteArray) (x:Pt) (i:Nat):List (List ByteArray):=(if hitF s x i then [rowN (preF x i)] else []) ++ ahL s (x.c i)
theorem ahL_eq (s:ByteArray) (x:Pt):ahL s x = catN (ahP s x) x.n:=by
 unfold ahL
 rw [frA_eq,catN_map]
 refine catN_congr fun i _=>?_
 unfold ahP ahL
 rw [List.map_append]
 congr 1
 split <;> rfl
theorem ahL_len (s:ByteArray):∀ x:Pt,(ahL s x).length < x.size:=by
 refine Pt.ind fun x ih=>?_
 have key:∀ n,n ≤ x.n→(catN (ahP s x) n).length ≤ sumN (fun i=>(x.c i).size) n:=by
  intro n
  induction n with
  | zero=>intro _;exact Nat.le_refl _
  | succ n ihn =>
    intro hn
    have h1:=ihn (by omega)
    have h2:=ih n (by omega)
    have h3:(ahP s x n).length ≤ 1 + (ahL s (x.c n)).length:=by
     unfold ahP
     rw [List.length_append]
     split <;> simp
    simp only [catN,sumN,List.length_append]
    omega
 have h1:=key x.n (Nat.le_refl _)
 rw [ahL_eq,x.size_eq]
 omega
theorem intoAll_two:∀ (m k l:List ByteArray),intoAll l (m ++ k) = intoAll (intoAll l m) k
 | [],_,_=>rfl
 | s :: m,k,l=>by simp only [List.cons_append,intoAll];rw [intoAll_two m k]
theorem intoL_le (s:ByteArray):∀ l:List ByteArray,(intoL s l).length ≤ l.length + 1
 | []=>by simp [intoL]
 | a :: l=>by
   simp only [intoL]
   split
   · simp
   · split
     · simp
     · have:=intoL_le s l;simp;omega
theorem intoAll_le:∀ (m l:List ByteArray),(intoAll l m).length ≤ l.length + m.length
 | [],_=>by simp [intoAll]
 | s :: m,l=>by
   have h1:=intoAll_le m (intoL s l)
   have h2:=intoL_le s l
   simp only [intoAll,List.length_cons]
   omega
theorem rowN_len (f:Pt) (m:Nat) (h:(ndF f).length ≤ m):(rowN f).length ≤ m:=by
 have h1:=intoAll_le (nmW (ndF f)) []
 have h2:(nmW (ndF f)).length ≤ (ndF f).length:=by rw [nmW,List.length_map];exact List.length_filter_le _ _
 simp only [List.length_nil] at h1
 unfold rowN
 omega
theorem ndP_len:∀ x:Pt,(ndP x).length ≤ x.size:=by
 refine Pt.ind fun x ih=>?_
 have key:∀ n,n ≤ x.n→(catN (fun i=>ndP (x.c i)) n).length ≤ sumN (fun i=>(x.c i).size) n:=by
  intro n
  induction n with
  | zero=>intro _;exact Nat.le_refl _
  | succ n ihn =>
    intro hn
    have h1:=ihn (by omega)
    have h2:=ih n (by omega)
    simp only [catN,sumN,List.length_append]
    omega
 have:=key x.n (Nat.le_refl _)
 rw [ndP_eq,x.size_eq,List.length_cons]
 omega
theorem frA_nd (s:ByteArray):∀ (x y:Pt),y ∈ frA s x→(ndF y).length ≤ x.size:=by
 refine Pt.ind fun x ih y h=>?_
 have key:∀ n,n ≤ x.n→(catN (fun i=>ndP (x.c i)) n).length ≤ sumN (fun i=>(x.c i).size) n:=by
  intro n
  induction n with
  | zero=>intro _;exact Nat.le_refl _
  | succ n ihn =>
    intro hn
    have h1:=ihn (by omega)
    have h2:=ndP_len (x.c n)
    simp only [catN,sumN,List.length_append]
    omega
 obtain ⟨i,hi,h | h⟩:=mem_frA.1 h
 · rw [h.2]
   have h1:=key i (by omega)
   have h2:sumN (fun i=>(x.c i).size) i ≤ sumN (fun i=>(x.c i).size) x.n:=sumN_upto (by omega)
   have h3:=x.size_eq
   show (catN (fun q=>ndP (x.c q)) i).length ≤ _
   omega
 · have h1:=ih i hi y h
   have h2:=x.size_part i hi
   omega
theorem ahL_part (s:ByteArray) (x:Pt):∀ l ∈ ahL s x,l.length ≤ x.size:=by
 intro l hl
 obtain ⟨f,hf,rfl⟩:=List.mem_map.1 hl
 exact rowN_len f x.size (frA_nd s x f hf)
theorem aheadL_of (s:ByteArray) (x:Pt):aheadL s x = match ahL s x with | []=>[] | l :: r=>l.filter fun t=>r.all fun g=>memB g t:=by
 unfold aheadL ahL
 cases frA s x with
 | nil=>rfl
 | cons f r =>
   simp only [List.map_cons]
   show (rowN f).filter _ = (rowN f).filter _
   congr 1
   funext t
   rw [List.all_map]
   congr 1
   funext g
   rw [Bool.eq_iff_iff]
   show memB (nmW (ndF g)) t = true ↔ memB (rowN g) t = true
   rw [memB_iff,memB_iff,rowN,mem_intoAll]
   simp
def Ls (w:World) (vs:List Value) (L:List (List ByteArray)):Prop:=∀ (j:Nat) (l:List ByteArray),L[j]? = some l→∃ u,vs[j]? = some u∧w.ownsRow 0 9 1 u l.length (cellsS l)
def RR (base:Nat) (w:World) (v:Value) (L:List (List ByteArray)):Prop:=∃ vs,w.ownsRow base 37 1 v L.length vs∧Ls w vs L
theorem RR.nil (base:Nat) (w:World):RR base w (.slice none 0 0) []:=⟨[],World.ownsRow_nil _ _ _ _,fun j l h=>by simp at h⟩
theorem RR.later {base:Nat} {w w':World} {v:Value} {L:List (List ByteArray)} (h:RR base w v L) (hB:Below w.heap.size w w'):RR base w' v L:=by
 obtain ⟨vs,h1,h2⟩:=h
 refine ⟨vs,own_laterS h1 hB,fun j l hj=>?_⟩
 obtain ⟨u,h3,h4⟩:=h2 j l hj
 exact ⟨u,h3,own_laterS h4 hB⟩
theorem RR.low {base base':Nat} {w:World} {v:Value} {L:List (List ByteArray)} (h:RR base w v L) (hb:base' ≤ base):RR base' w v L:=by
 obtain ⟨vs,h1,h2⟩:=h
 exact ⟨vs,own_low3 h1 hb,h2⟩
theorem RR.slice {base:Nat} {w:World} {v:Value} {L:List (List ByteArray)} (h:RR base w v L):∃ a cap,v = .slice a L.length cap:=by
 obtain ⟨vs,h1,_⟩:=h
 rcases h1.2 with ⟨rfl,e⟩ | ⟨g,cap,cur,rfl,_⟩
 · exact ⟨none,0,by rw [e]⟩
 · exact ⟨_,cap,rfl⟩
theorem RR.own {base:Nat} {w:World} {v:Value} {L:List (List ByteArray)} (h:RR base w v L):∀ g,v.ownBlock = some g→base ≤ g∧g < w.heap.size:=by
 obtain ⟨vs,h1,_⟩:=h
 exact fun g hg=>h1.lt g hg
theorem RR.below {A:Nat} {W0 w w':World} {v:Value} {L:List (List ByteArray)} (h:RR A w v L) (hB:Below A W0 w) (hA:A ≤ w.heap.size) (hg:w.grownBy w' v.ownBlock):Below A W0 w':=hB.grown hg hA (fun g e=>(h.own g e).1)
theorem RR.one {w:World} {u:Value} {l:List ByteArray} (h:w.ownsRow 0 9 1 u l.length (cellsS l)):RR w.heap.size (w.alloc (.cells #[u] 37)) (.slice (some ⟨w.heap.size,0,none⟩) 1 1) [l]:=by
 refine ⟨[u],⟨rfl,.inr ⟨w.heap.size,1,#[u],rfl,Nat.le_refl _,alloc_new w _,Nat.le_refl _,by unfold maxLen;omega,rfl,rfl⟩⟩,fun j l' hj=>?_⟩
 match j with
 | 0=>simp at hj;subst hj;exact ⟨u,rfl,own_laterS h (nwB _ _)⟩
 | j + 1=>simp at hj
theorem infoTS:(Tryz.prog.info? 37).map (fun i=>(i.zero,i.size,i.bytes)) = some (some (.slice none 0 0),1,24):=by kernel_rfl
theorem row_slices {base:Nat} {w:World} {v:Value} {L:List (List ByteArray)} {vs:List Value} (h1:w.ownsRow base 37 1 v L.length vs) (h2:Ls w vs L):∀ u ∈ vs,u.oneCell' = true:=by
 intro u hu
 obtain ⟨j,hj,rfl⟩:=List.getElem_of_mem hu
 have hl:vs.length = L.length:=by have:=h1.1;omega
 obtain ⟨u',e,ho⟩:=h2 j L[j] (List.getElem?_eq_getElem (by omega))
 rw [List.getElem?_eq_getElem hj] at e
 injection e with e
 rw [e]
 rcases ho.2 with ⟨rfl,_⟩ | ⟨g,cap,cur,rfl,_⟩ <;> rfl
theorem RR.app {base base2:Nat} {w:World} {v u:Value} {L M:List (List ByteArray)} (h:RR base w v L) (hb:base ≤ w.heap.size) (h2:RR base2 w u M) (hn:L.length + M.length ≤ 16777216) :
 ∃ v' w',(Builtin.append_ #[91,91] 91 #[v,u]).run Tryz.prog w = .ok v' w'∧RR base w' v' (L ++ M)∧w.grownBy w' v.ownBlock:=by
 obtain ⟨vs,o1,s1⟩:=h
 obtain ⟨us,o2,s2⟩:=h2
 obtain ⟨i0,hi,hz0,hz1,hz2⟩:=info_parts infoTS
 have hl1:vs.length = L.length:=by have:=o1.1;omega
 have hl2:us.length = M.length:=by have:=o2.1;omega
 have hs12:Ls w (vs ++ us) (L ++ M):=fun j l hj=>by
  by_cases e:j < L.length
  · rw [List.getElem?_append_left e] at hj
    obtain ⟨u,h3,h4⟩:=s1 j l hj
    exact ⟨u,by rw [List.getElem?_append_left (by omega)];exact h3,h4⟩
  · rw [List.getElem?_append_right (by omega)] at hj
    obtain ⟨u,h3,h4⟩:=s2 _ l hj
    exact ⟨u,by rw [List.getElem?_append_right (by omega),hl1];exact h3,h4⟩
 rcases o2.2 with ⟨rfl,e0⟩ | ⟨g,cap,cur,rfl,hg,hc,hnc,hcm,hs,ht⟩
 · have em:M = []:=List.eq_nil_of_length_eq_zero e0
   subst em
   have eu:us = []:=List.eq_nil_of_length_eq_zero (by simpa using hl2)
   subst eu
   obtain ⟨a,cap,rfl⟩:=RR.slice ⟨vs,o1,s1⟩
   have ht:Tryz.prog.underlying 91 = some (.slice 37):=Tryz.underlying91
   have hle:L.length ≤ cap:=by
    rcases o1.2 with ⟨e1,e2⟩ | ⟨g,cap',cur,e1,_,_,h3,_⟩
    · have:=(Value.slice.inj e1).2.1;omega
    · have:=Value.slice.inj e1;omega
   refine ⟨.slice a L.length cap,w,?_,by simpa using ⟨vs,o1,s1⟩,⟨rfl,rfl,rfl,Nat.le_refl _,fun _ _ _=>rfl⟩⟩
   cases a <;> simp [Builtin.append_,run_underlying ht,sizeOf,typeInfo,hi,Builtin.lenOf,Builtin.firstCells,hle,storeCells]
 · obtain ⟨v',w',hrun,hown',hgrow,_⟩:=run_append_own (P:=Tryz.prog) (w:=w) base 91 91 37 i0 (.slice none 0 0) 1 24 Tryz.underlying91 hi hz0 hz1 hz2 rfl (by decide) v _ _ o1 ⟨g,0,none⟩ M.length cap us (by omega)
    (fun j u hu=>by
      have hj:j < M.length:=by have:=(List.getElem?_eq_some_iff.1 hu).1;omega
      rw [← ht,List.getElem?_take_of_lt (by omega)] at hu
      rw [add_none,Nat.zero_add]
      simp only [World.cell?,hc]
      rw [Array.getElem?_toList] at hu
      exact hu) (row_slices o2 s2) (by unfold maxLen;omega) (by omega) hb
   refine ⟨v',w',hrun,⟨vs ++ us,by rw [List.length_append];exact hown',fun j l hj=>?_⟩,hgrow⟩
   obtain ⟨u,h3,h4⟩:=hs12 j l hj
   rcases h4.2 with ⟨rfl,e0⟩ | ⟨g4,cap4,cur4,e4,_,hc4,_⟩
   · have el:l = []:=List.eq_nil_of_length_eq_zero e0
     subst el
     exact ⟨_,h3,World.ownsRow_nil _ _ _ _⟩
   · refine ⟨u,h3,h4.kept hgrow (.inr fun e=>?_)⟩
     subst e4
     rcases o1.2 with ⟨rfl,_⟩ | ⟨g1,cap1,cur1,rfl,_,hc1,_⟩
     · simp [Value.ownBlock] at e
     · simp [Value.ownBlock] at e
       subst e
       rw [hc1] at hc4
       injection hc4 with h5
       injection h5 with _ h6
       exact absurd h6 (by decide)
theorem nmU_take (U:List Pt) (m:Nat) (h:m < U.length):nmU (U.take (m + 1)) = nmU (U.take m) ++ (if U[m].k = 6 then [] else [U[m].s]):=by
 rw [List.take_succ_eq_append_getElem h,nmU_app]
 congr 1
 by_cases h6:U[m].k = 6
 · simp [nmU,h6]
 · simp [nmU,h6]
def Gth (x:Pt) (k m:Nat):List ByteArray:=intoAll [] (nmU (catN (fun q=>usesP (x.c q)) k ++ (usesP (x.c k)).take m))
theorem Gth_next (x:Pt) (k:Nat):Gth x k (usesP (x.c k)).length = Gth x (k + 1) 0:=by
 unfold Gth
 rw [List.take_length,List.take_zero,List.append_nil]
 rfl
theorem Gth_step (x:Pt) (k m:Nat) (h:m < (usesP (x.c k)).length):Gth x k (m + 1) = if ((usesP (x.c k))[m]).k = 6 then Gth x k m else intoL ((usesP (x.c k))[m]).s (Gth x k m):=by
 unfold Gth
 rw [nmU_app,nmU_app,nmU_take _ _ h]
 split
 · rw [List.append_nil]
 · rw [← List.append_assoc,intoAll_two]
   rfl
theorem Gth_end (x:Pt) (i:Nat):Gth x i 0 = rowN (preF x i):=by
 rw [rowN_pre]
 unfold Gth
 rw [List.take_zero,List.append_nil]
theorem Gth_len (x:Pt) (k m:Nat) (hk:k < x.n):(Gth x k m).length ≤ x.size:=by
 have h1:=intoAll_le (nmU (catN (fun q=>usesP (x.c q)) k ++ (usesP (x.c k)).take m)) []
 have h2:=nmU_len (catN (fun q=>usesP (x.c q)) k ++ (usesP (x.c k)).take m)
 have h3:=length_catU x (k + 1) (by omega)
 rw [catN,List.length_append] at h3
 have h4:sumN (fun i=>(x.c i).size) (k + 1) ≤ sumN (fun i=>(x.c i).size) x.n:=sumN_upto (by omega)
 have h5:=x.size_eq
 have h6:((usesP (x.c k)).take m).length ≤ (usesP (x.c k)).length:=by rw [List.length_take];omega
 rw [List.length_append] at h2
 simp only [List.length_nil] at h1
 unfold Gth
 omega
def AhAns (s:ByteArray) (x:Pt) (w:World) (e:Ending) (w':World):Prop:=∃ v,e = .returned v∧RR w.heap.size w' v (ahL s x)∧Below w.heap.size w w'
theorem ahP_cat (s:ByteArray) (x:Pt) (k:Nat) (hk:k ≤ x.n):(catN (ahP s x) k).length ≤ x.size:=by
 have h0:∀ n,n ≤ x.n→(catN (ahP s x) n).length ≤ sumN (fun i=>(x.c i).size) n:=by
  intro n
  induction n with
  | zero=>intro _;exact Nat.le_refl _
  | succ n ihn =>
    intro hn
    have h1:=ihn (by omega)
    have h2:=ahL_len s (x.c n)
    have h3:(ahP s x n).length ≤ 1 + (ahL s (x.c n)).length:=by
     unfold ahP
     rw [List.length_append]
     split <;> simp
    simp only [catN,sumN,List.length_append]
    omega
 have h1:=h0 k hk
 have h2:sumN (fun i=>(x.c i).size) k ≤ sumN (fun i=>(x.c i).size) x.n:=sumN_upto hk
 rw [x.size_eq]
 omega
theorem aheads_any (s:ByteArray):∀ (x:Pt) (w:World),IsP w x→x.size ≤ 1048576→Calls Tryz.prog 40 #[x.val,.string s] w (AhAns s x w):=by
 refine Pt.ind fun x ih w hX hsm=>?_
 obtain ⟨A,hA,hB,hs,hn⟩:=boxP_one x w
 obtain ⟨a0,a1,a2,a3,a4,a5⟩:=hn.at0
 have HB:=hid hB
 have HN:=hid hn
 have HX:=hid hX
 have HSM:=hid hsm
 have hlen:=hX.len
 have HI:Hid (∀ i,i < x.n→∀ W,Below w.heap.size w W→Calls Tryz.prog 40 #[(x.c i).val,.string s] W (AhAns s (x.c i) W)):=fun i hi W hW=>by
  obtain ⟨_,_,_,_,h1⟩:=(hX.later hW).part hi
  exact ih i hi W h1 (by have:=x.size_part i hi;omega)
 have HU:Hid (∀ i,i < x.n→∀ W,Below w.heap.size w W→Calls Tryz.prog 82 #[(x.c i).val] W (UsesAns (x.c i) W)):=fun i hi W hW=>by
  obtain ⟨_,_,_,_,h1⟩:=(hX.later hW).part hi
  exact refUses_any (x.c i) W h1 (by have:=x.size_part i hi;omega)
 clear hB hn hX ih hs hsm
 go_enter Tryz.func40,Tryz.ntmps40
 go_wp2_with fail
 clear a0 a1 a2 a3 a4 a5 hA
 go_loopw [5,6] (fun ov iv wr=>∃ (i:Nat) (v:Value),i ≤ x.n∧v = ov∧iv = .int .i64 i∧Hid (RR A.heap.size wr v (catN (ahP s x) i))∧Below A.heap.size A wr) (fun _ iv _=>x.n - (intOf iv).toNat)
 case atStart=>exact ⟨0,_,Nat.zero_le _,rfl,rfl,RR.nil _ _,Below.refl _ _⟩
 case round =>
  obtain ⟨i,v,hi,rfl,rfl,HR,hBr⟩:=hrel
  have hw:=HB.out.trans (hBr.mono HB.out.size)
  obtain ⟨c0,c1,c2,c3,c4,c5⟩:=(HN.out.later hBr).at0
  by_cases hin:i < x.n
  · obtain ⟨b,o,ea,hn,-⟩:=(HX.out.later hw).part hin
    rw [ea] at c5
    obtain ⟨d0,d1,d2,d3,d4,d5⟩:=hn
    obtain ⟨C,V,hC,hCb,hCV,hCB,hCn,hCs⟩:=boxP_put (x.c i) wr
    obtain ⟨⟨g0,g1,g2,g3,g4,g5⟩,f0,f1,f2,f3,f4,f5⟩:=zero_cells hCb
    have HIN:=hid hin
    have HOB:Hid (∀ g,v.ownBlock = some g→g < wr.heap.size):=fun g e=>(HR.out.own g e).2
    have HBR:=hid hBr
    have HNV:=hid hCn
    have HAV:Hid (Below A.heap.size A V):=hBr.trans (hCB.mono hBr.size)
    have HRV:Hid (RR A.heap.size V v (catN (ahP s x) i)):=HR.out.later hCB
    obtain ⟨e0,e1,e2,e3,e4,e5⟩:=hCn.at0
    obtain ⟨k0,-,-,-,-,k5⟩:=(HN.out.later (hBr.trans (hCB.mono hBr.size))).at0
    have HEA:=hid ea
    clear ea HR hi hw hCn hCs hCb hCB hBr
    by_cases hit:hitF s x i = true
    · obtain ⟨t1,t2,t3⟩:x.k = 2∧(x.c i).k = 6∧(x.c i).s = s:=by simpa [hitF,and_assoc] using hit
      have q1:(x.k == 2) = true:=by simp [t1]
      have q2:((x.c i).k == 6) = true:=by simp [t2]
      have q3:=str_yes t3
      have q3':=str_yes t3.symm
      have HIT:=hid hit
      clear t1 t2 t3 hit
      have HBV:Hid (Below w.heap.size w V):=HB.out.trans (HAV.out.mono HB.out.size)
      go_wp2_with fail
      obtain ⟨BX,hBX⟩:∃ BX,wr.heap.size = BX:=⟨_,rfl⟩
      rw [hBX] at HNV HOB ⊢
      clear hBX hin e0 e1 e2 e3 e4 e5 k0 k5 c0 c1 c2 c3 c4 c5 d0 d1 d2 d3 d4 d5 g0 g1 g2 g3 g4 g5 f0 f1 f2 f3 f4 f5 hC hCV q1 q2 q3 q3'
      obtain ⟨av,cv,rfl⟩:=HRV.out.slice
      go_loopw [8,9] (fun lv kv w2=>∃ (k:Nat) (l:Value),k ≤ i∧l = lv∧kv = .int .i64 k∧Hid (w2.ownsRow V.heap.size 9 1 l (Gth x k 0).length (cellsS (Gth x k 0)))∧Below V.heap.size V w2) (fun _ kv _=>i - (intOf kv).toNat)
      case atStart=>exact ⟨0,_,Nat.zero_le _,rfl,rfl,World.ownsRow_nil _ _ _ _,Below.refl _ _⟩
      case round =>
       obtain ⟨k,l,hki,rfl,rfl,HO,hB2⟩:=hrel
       obtain ⟨k0,-,-,-,-,k5⟩:=(HN.out.later (HAV.out.trans (hB2.mono HAV.out.size))).at0
       by_cases hk:k < i
       · have hw2:=HBV.out.trans (hB2.mono HBV.out.size)
         obtain ⟨b',o',ea',hn,-⟩:=(HX.out.later hw2).part (Nat.lt_trans hk HIN.out)
         rw [ea'] at k5
         obtain ⟨d0,d1,d2,d3,d4,d5⟩:=hn
         have CU:=HU.out k (Nat.lt_trans hk HIN.out) wr hw2
         have HK:=hid hk
         have hkx:=Nat.lt_trans hk HIN.out
         clear ea' hki hw2
         go_wp2_with (go_at_call 82;refine CU.mono ?_;clear CU;rintro e w3 ⟨u,rfl,hu,hB3⟩;obtain ⟨au,cu,rfl,-,hcu,hcm,hcells⟩:=own_uses hu)
         have HC:=hid hcells
         have HO3:Hid (w3.ownsRow V.heap.size 9 1 l (Gth x k 0).length (cellsS (Gth x k 0))):=own_laterS HO.out hB3
         have HB3:Hid (Below V.heap.size V w3):=hB2.trans (hB3.mono hB2.size)
         have HLU:=hid hcu
         have hlu:(usesP (x.c k)).length ≤ 1048576:=by
          have h1:=length_uses (x.c k)
          have h2:=x.size_part k (Nat.lt_trans HK.out HIN.out)
          have h3:=HSM.out
          omega
         clear hk hkx hcells hu hB3 HO hB2 k0 k5 d0 d1 d2 d3 d4 d5 hcu hcm
         go_loopw [8,11] (fun lv mv w4=>∃ (m:Nat) (l:Value),m ≤ (usesP (x.c k)).length∧l = lv∧mv = .int .i64 m∧Hid (w4.ownsRow V.heap.size 9 1 l (Gth x k m).length (cellsS (Gth x k m)))∧Hid (Below w3.heap.size w3 w4)) (fun _ mv _=>(usesP (x.c k)).length - (intOf mv).toNat)
         case atStart=>exact ⟨0,_,Nat.zero_le _,rfl,rfl,HO3.out,Below.refl _ _⟩
         case round =>
          obtain ⟨m,l,hm,rfl,rfl,HO,HB4⟩:=hrel
          by_cases hmn:m < (usesP (x.c k)).length
          · obtain ⟨y,hy⟩:∃ y,y = (usesP (x.c k))[m]:=⟨_,rfl⟩
            obtain ⟨g,eg,-,-,q0,-,q2⟩:=HC.out m y (by rw [hy];exact List.getElem?_eq_getElem hmn)
            have q0:=cell_later q0 HB4.out
            have q2:=cell_later q2 HB4.out
            have hst:=Gth_step x k m hmn
            rw [← hy] at hst
            have HMN:=hid hmn
            subst eg
            clear hy hm
            by_cases h6:y.k = 6
            · have t6:(y.k != 6) = false:=by simp [h6]
              rw [if_pos h6] at hst
              have HST:=hid hst
              clear h6 hst hmn
              go_wp2_with fail
              go_roundw
              case rel=>exact ⟨m + 1,l,HMN.out,rfl,by simp,by rw [HST.out];exact HO.out,HB4.out⟩
              case measure=>have:=HMN.out;simp [intOf];omega
            · have t6:(y.k != 6) = true:=by simp [h6]
              rw [if_neg h6] at hst
              have HST:=hid hst
              obtain ⟨al,cl,rfl⟩:=row_slice HO.out
              have CI:=into_any al _ cl (atS (Gth x k m)) y.s wr (own_txs' HO.out) (Nat.le_trans (Gth_len x k m (Nat.lt_trans HK.out HIN.out)) HSM.out)
              rw [lstS_all] at CI
              clear h6 hst hmn
              go_wp2_with (go_at_call 94;refine CI.mono ?_;clear CI;rintro e w5 ⟨v5,rfl,ho5,hB5⟩)
              go_roundw
              case rel =>
               refine ⟨m + 1,v5,HMN.out,rfl,by simp,?_,HB4.out.trans (hB5.mono HB4.out.size)⟩
               show w5.ownsRow _ _ _ _ _ _
               rw [HST.out]
               exact own_low3 ho5 (Nat.le_trans HB3.out.size HB4.out.size)
              case measure=>have:=HMN.out;simp [intOf];omega
          · obtain rfl:m = (usesP (x.c k)).length:=by omega
            have hkx:=Nat.lt_trans HK.out HIN.out
            go_wp2_with fail
            go_roundw
            case rel=>exact ⟨k + 1,l,HK.out,rfl,by simp,by rw [← Gth_next];exact HO.out,HB3.out.trans (HB4.out.mono HB3.out.size)⟩
            case measure=>have h1:=HK.out;have h2:=HIN.out;simp [intOf];omega
       · obtain rfl:k = i:=by omega
         obtain ⟨al,cl,rfl⟩:=row_slice HO.out
         have hone:=RR.one (own_low3 HO.out (Nat.zero_le _))
         have hal:Below wr.heap.size wr (wr.alloc (.cells #[.slice al (Gth x k 0).length cl] 37)):=nwB _ _
         have hAw:=HAV.out.trans (hB2.mono HAV.out.size)
         obtain ⟨v3,w3,r3,hR3,hg3⟩:=((HRV.out.later hB2).later hal).app (Nat.le_trans hAw.size hal.size) hone (by have:=ahP_cat s x k (Nat.le_of_lt HIN.out);have:=HSM.out;simp only [List.length_cons,List.length_nil];omega)
         have hB3:=((HRV.out.later hB2).later hal).below (hAw.trans (hal.mono hAw.size)) (Nat.le_trans hAw.size hal.size) hg3
         have hbx:w3.heap[BX]? = V.heap[BX]?:=((hg3.block BX (Nat.lt_of_lt_of_le (Nat.lt_of_lt_of_le HNV.out.lt hB2.size) hal.size) (fun e=>by have:=HOB.out BX e.symm;omega)).trans (hal.block BX (Nat.lt_of_lt_of_le HNV.out.lt hB2.size))).trans (hB2.block BX HNV.out.lt)
         obtain ⟨e0,e1,e2,e3,e4,e5⟩:=(HNV.out.of (w':=w3) (fun j _=>by simp only [World.cell?];rw [hbx])).at0
         obtain ⟨k0,-,-,-,-,k5⟩:=(HN.out.later hB3).at0
         have CI:=HI.out k HIN.out w3 (HB.out.trans (hB3.mono HB.out.size))
         have HR3:=hid r3
         obtain ⟨L3,hL3⟩:∃ L3,L3 = catN (ahP s x) k ++ [Gth x k 0]:=⟨_,rfl⟩
         rw [← hL3] at hR3
         have HL3:=hid hL3
         have HRR:=hid hR3
         have HB3:=hid hB3
         obtain ⟨a3,c3,rfl⟩:=hR3.slice
         have hkx:=HIN.out
         clear hL3 r3 hR3 hg3 hB3 hbx hone hal hAw HO hB2 hki hk
         go_wp2_with (first
          | (go_at_call 40;refine CI.mono ?_;clear CI;rintro e w4 ⟨u4,rfl,hu4,hB4⟩
             obtain ⟨v5,w5,r5,hR5,hg5⟩:=(HRR.out.later hB4).app (Nat.le_trans HB3.out.size hB4.size) hu4 (by have h1:=ahP_cat s x (k + 1) HIN.out;have h2:=HSM.out;rw [HL3.out];rw [show catN (ahP s x) (k + 1) = catN (ahP s x) k ++ ahP s x k from rfl,List.length_append] at h1;have h3:(ahP s x k).length = 1 + (ahL s (x.c k)).length:=(by unfold ahP;rw [if_pos HIT.out,List.length_append];rfl);simp only [List.length_append,List.length_cons,List.length_nil];omega)
             have hA4:=HB3.out.trans (hB4.mono HB3.out.size)
             have HB5:Hid (Below A.heap.size A w5):=(HRR.out.later hB4).below hA4 hA4.size hg5
             obtain ⟨a4,c4,rfl⟩:=hu4.slice
             have HR5:=hid r5
             have HRR5:=hid hR5
             clear r5 hR5 hg5 hA4 hu4)
          | (at_builtin;refine wpList_append_run rfl (.tmp 72) (.tmp 75) 91 rfl _ _ _ rfl rfl HR5.out ?_)
          | (at_builtin;refine wpList_append_run rfl (.tmp 68) (.tmp 70) 91 rfl _ _ _ rfl rfl HR3.out ?_))
         go_roundw
         case rel =>
          refine ⟨k + 1,v5,HIN.out,rfl,by have h1:=HIN.out;go_num,?_,HB5.out⟩
          show RR _ _ _ (catN (ahP s x) k ++ ahP s x k)
          rw [show ahP s x k = [Gth x k 0] ++ ahL s (x.c k) by unfold ahP;rw [if_pos HIT.out,Gth_end],← List.append_assoc,← HL3.out]
          exact HRR5.out
         case measure=>have:=HIN.out;simp [intOf];omega
    · have HIT:=hid hit
      have nx:catN (ahP s x) (i + 1) = catN (ahP s x) i ++ ahL s (x.c i):=by
       show catN (ahP s x) i ++ ahP s x i = _
       unfold ahP
       rw [if_neg hit,List.nil_append]
      have NX:=hid nx
      have CI:=HI.out i HIN.out V (HB.out.trans (HAV.out.mono HB.out.size))
      obtain ⟨av,cv,rfl⟩:=HRV.out.slice
      have hor:(x.k == 2) = false ∨ ((x.k == 2) = true∧((x.c i).k == 6) = false) ∨ ((x.k == 2) = true∧((x.c i).k == 6) = true∧¬ (x.c i).s = s):=by
       by_cases h1:x.k = 2
       · by_cases h2:(x.c i).k = 6
         · exact .inr (.inr ⟨by simp [h1],by simp [h2],fun h3=>hit (by simp [hitF,h1,h2,h3])⟩)
         · exact .inr (.inl ⟨by simp [h1],by simp [h2]⟩)
       · exact .inl (by simp [h1])
      clear hit nx HIT
      rcases hor with q1 | ⟨q1,q2⟩ | ⟨q1,q2,q3⟩
      rotate_left
      rotate_left
      have q4:=str_not q3
      have q5:=str_not (fun h=>q3 (Eq.symm h))
      clear q3
      rotate_left
      all_goals go_wp2_with (first
       | (go_at_call 40;refine CI.mono ?_;clear CI;rintro e w4 ⟨u4,rfl,hu4,hB4⟩
          obtain ⟨v5,w5,r5,hR5,hg5⟩:=(HRV.out.later hB4).app (Nat.le_trans HAV.out.size hB4.size) hu4 (by have h1:=ahP_cat s x (i + 1) HIN.out;rw [NX.out] at h1;have h2:=HSM.out;simp only [List.length_append] at h1;omega)
          have hA4:=HAV.out.trans (hB4.mono HAV.out.size)
          have HB5:Hid (Below A.heap.size A w5):=(HRV.out.later hB4).below hA4 hA4.size hg5
          obtain ⟨a4,c4,rfl⟩:=hu4.slice
          have HR5:=hid r5
          have HRR5:=hid hR5
          clear r5 hR5 hg5 hA4 hu4)
       | (at_builtin;refine wpList_append_run rfl (.tmp 72) (.tmp 75) 91 rfl _ _ _ rfl rfl HR5.out ?_))
      all_goals go_roundw
      case rel=>exact ⟨i + 1,v5,HIN.out,rfl,by simp,by rw [NX.out];exact HRR5.out,HB5.out⟩
      case measure=>have:=HIN.out;simp [intOf];omega
      case rel=>exact ⟨i + 1,v5,HIN.out,rfl,by simp,by rw [NX.out];exact HRR5.out,HB5.out⟩
      case measure=>have:=HIN.out;simp [intOf];omega
      case rel=>exact ⟨i + 1,v5,HIN.out,rfl,by simp,by rw [NX.out];exact HRR5.out,HB5.out⟩
      case measure=>have:=HIN.out;simp [intOf];omega
  · obtain rfl:i = x.n:=by omega
    go_wp2
    go_ret
    refine ⟨_,rfl,?_,hw⟩
    rw [ahL_eq]
    exact HR.out.low HB.out.size
theorem RR.at {base:Nat} {w:World} {v:Value} {L:List (List ByteArray)} (h:RR base w v L) (h0:0 < L.length):∃ g cap,v = .slice (some ⟨g,0,none⟩) L.length cap∧L.length ≤ cap ∧
 ∀ (j:Nat) (l:List ByteArray),L[j]? = some l→∃ a c,w.cell? ⟨g,j,none⟩ = some (.slice a l.length c)∧Txs w a l.length (atS l):=by
 obtain ⟨vs,h1,h2⟩:=h
 rcases h1.2 with ⟨_,e⟩ | ⟨g,cap,cur,e,hg,hc,hnc,hcm,hs,ht⟩
 · omega
 · refine ⟨g,cap,e,hnc,fun j l hj=>?_⟩
   obtain ⟨u,h3,h4⟩:=h2 j l hj
   obtain ⟨a,c,rfl⟩:=row_slice h4
   refine ⟨a,c,?_,own_txs' h4⟩
   have hjl:j < L.length:=(List.getElem?_eq_some_iff.1 hj).1
   rw [← ht,List.getElem?_take_of_lt (by omega),Array.getElem?_toList] at h3
   simp only [World.cell?,hc]
   exact h3
theorem filter_take (P:ByteArray→Bool) (l:List ByteArray) (i:Nat) (h:i < l.length):(l.take (i + 1)).filter P = (l.take i).filter P ++ (if P l[i] = true then [l[i]] else []):=by
 rw [List.take_succ_eq_append_getElem h,List.filter_append]
 congr 1
 by_cases e:P l[i] = true
 · simp [e]
 · simp [e]
theorem all_take (r:List (List ByteArray)) (t:ByteArray) (k:Nat) (h:k < r.length):((r.take (k + 1)).all fun g=>memB g t) = ((r.take k).all (fun g=>memB g t) && memB r[k] t):=by
 rw [List.take_succ_eq_append_getElem h,List.all_append]
 simp
theorem refAhead_any (x:Pt) (s:ByteArray) (w:World) (hX:IsP w x) (hsm:x.size ≤ 1048576) :
 Calls Tryz.prog 12 #[x.val,.string s] w fun e w'=>∃ v,e = .returned v∧w'.ownsRow w.heap.size 9 1 v (aheadL s x).length (cellsS (aheadL s x))∧Below w.heap.size w w':=by
 obtain ⟨A,hA,hB,hs,hn⟩:=boxP_one x w
 obtain ⟨a0,a1,a2,a3,a4,a5⟩:=hn.at0
 have HB:=hid hB
 have CA:=aheads_any s x A (hX.later hB) hsm
 have HAL:Hid (aheadL s x = match ahL s x with | []=>[] | l :: r=>l.filter fun t=>r.all fun g=>memB g t):=aheadL_of s x
 have HLL:Hid ((ahL s x).length < 1048576):=Nat.lt_of_lt_of_le (ahL_len s x) hsm
 have HLN:Hid (∀ l ∈ ahL s x,l.length ≤ 1048576):=fun l hl=>Nat.le_trans (ahL_part s x l hl) hsm
 clear hB hn hs hX hsm
 go_enter Tryz.func12,Tryz.ntmps12
 cases hL:ahL s x with
 | nil =>
   go_wp2_with (go_at_call 40;refine CA.mono ?_;clear CA;rintro e w1 ⟨v1,rfl,hr1,hB1⟩;rw [hL] at hr1;obtain ⟨b1,c1,e1⟩:=hr1.slice;rw [List.length_nil] at e1;subst e1;clear a0 a1 a2 a3 a4 a5 hA)
   go_ret
   refine ⟨_,rfl,?_,HB.out.trans (hB1.mono HB.out.size)⟩
   rw [HAL.out,hL]
   exact World.ownsRow_nil _ _ _ _
 | cons l0 r =>
   obtain ⟨n,hn⟩:∃ n,n = r.length + 1:=⟨_,rfl⟩
   obtain ⟨n0,hn0⟩:∃ n0,n0 = l0.length:=⟨_,rfl⟩
   have hln:n ≤ 1048576:=by have:=HLL.out;rw [hL,List.length_cons] at this;omega
   have hl0:n0 ≤ 1048576:=by rw [hn0];exact HLN.out l0 (by rw [hL];simp)
   have hn1:0 < n:=by omega
   have HN:=hid hn
   have HN0:=hid hn0
   have hnz:((n:Int) == 0) = false:=by simp;omega
   clear hn hn0
   go_wp2_with (go_at_call 40;refine CA.mono ?_;clear CA;rintro e w1 ⟨v1,rfl,hr1,hB1⟩;rw [hL] at hr1;obtain ⟨g,cap,e1,hcap,hat⟩:=hr1.at (by simp);rw [List.length_cons,← HN.out] at e1 hcap;subst e1;clear a0 a1 a2 a3 a4 a5 hA)
   obtain ⟨ba,bc,c0,hT0⟩:=hat 0 l0 rfl
   rw [← HN0.out] at c0 hT0
   have HAT:Hid (∀ (j:Nat) (l:List ByteArray),r[j]? = some l→∃ a c,w1.cell? ⟨g,j + 1,none⟩ = some (.slice a l.length c)∧Txs w1 a l.length (atS l)):=fun j l hj=>hat (j + 1) l (by rw [List.getElem?_cons_succ];exact hj)
   have HT0:=hid hT0
   have HC0:=hid c0
   have HBA:=hid hB1
   have HL:=hid hL
   have HRL:Hid (∀ l ∈ r,l.length ≤ 1048576):=fun l hl=>HLN.out l (by rw [hL];exact List.mem_cons_of_mem _ hl)
   obtain ⟨P,hP⟩:∃ P,P = fun t=>r.all fun g=>memB g t:=⟨_,rfl⟩
   have HP:=hid hP
   clear hat hT0 c0 hB1 hr1 hL hP HLL HLN
   go_loopw [6,7] (fun ov iv w2=>∃ (i:Nat) (v:Value),i ≤ n0∧v = ov∧iv = .int .i64 i∧Hid (w2.ownsRow w1.heap.size 9 1 v ((l0.take i).filter P).length (cellsS ((l0.take i).filter P)))∧Hid (Below w1.heap.size w1 w2)) (fun _ iv _=>n0 - (intOf iv).toNat)
   case atStart=>exact ⟨0,_,Nat.zero_le _,rfl,rfl,World.ownsRow_nil _ _ _ _,Below.refl _ _⟩
   case round =>
    obtain ⟨i,v,hi,rfl,rfl,HO,HB2⟩:=hrel
    have c0:=cell_later HC0.out HB2.out
    by_cases hin:i < n0
    · obtain ⟨t,ht⟩:∃ t,t = atS l0 i:=⟨_,rfl⟩
      have HTT:=hid ht
      have HIN:=hid hin
      obtain ⟨w2,hw2⟩:∃ w2,w2 = wr:=⟨_,rfl⟩
      rw [← hw2] at HO HB2
      have HW2:Hid (Below w2.heap.size w2 wr):=by rw [hw2];exact Below.refl _ _
      clear hw2 ht
      go_wp2_with fail
      clear c0 hin hi
      go_loopw [8,9] (fun bv kv w3=>∃ (m:Nat) (b:Bool),m ≤ n∧bv = .bool b∧kv = .int .i64 m∧Hid (1 ≤ m∧b = (r.take (m - 1)).all fun g=>memB g t)∧Hid (Below w2.heap.size w2 w3)) (fun _ kv _=>n - (intOf kv).toNat)
      case atStart=>exact ⟨1,true,by omega,rfl,rfl,⟨Nat.le_refl _,rfl⟩,HW2.out⟩
      case round =>
       obtain ⟨m,b,hm,rfl,rfl,HBM,HB3⟩:=hrel
       obtain ⟨k,hkm⟩:∃ k,m = k + 1:=⟨m - 1,by have:=HBM.out.1;omega⟩
       have HM:=hid hkm
       have HBB:Hid (b = (r.take k).all fun g=>memB g t):=by have:=HBM.out.2;rw [hkm,Nat.add_sub_cancel] at this;exact this
       clear HBM
       have HB13:Hid (Below w1.heap.size w1 wr):=HB2.out.trans (HB3.out.mono HB2.out.size)
       have hin:=HIN.out
       obtain ⟨bb,oo,rfl,hci⟩:=HT0.out (by omega)
       have ci:=cell_later (hci i hin) HB13.out
       rw [← HTT.out] at ci
       have c0:=cell_later HC0.out HB13.out
       by_cases hk1:m < n
       · have hkr:k < r.length:=by have:=HN.out;omega
         obtain ⟨ak,ck2,ck,hTk⟩:=HAT.out k r[k] (List.getElem?_eq_getElem hkr)
         have ck:=cell_later ck HB13.out
         rw [← hkm] at ck
         have HTK:Hid (Txs wr ak r[k].length (atS r[k])):=hTk.later HB13.out
         have hlk:r[k].length ≤ 9223372036854775807:=Nat.le_trans (HRL.out r[k] (List.getElem_mem hkr)) (by decide)
         have hst:=all_take r t k hkr
         rw [← HBB.out,← hkm] at hst
         have HST:=hid hst
         have HKN:=hid hk1
         clear hst hkm
         cases b
         · go_wp2_with fail
           refine bg fun d hHeld=>?_
           have hT:=hHeld
           refine tk 0 ?_
           refine tk 1 ?_
           refine tn 2 ?_
           refine tn 3 ?_
           refine tn 4 ?_
           refine tn 5 ?_
           refine tn 6 ?_
           refine tn 7 ?_
           refine tn 8 ?_
           refine tn 9 ?_
           refine tn 10 ?_
           refine tn 11 ?_
           refine tn 12 ?_
           refine tk 13 ?_
           refine tk 14 ?_
           refine dn ?_
           go_wp2_with fail
           go_roundw
           case rel=>exact ⟨m + 1,false,HKN.out,rfl,by go_num,⟨by omega,by rw [Nat.add_sub_cancel,HST.out];rfl⟩,HB3.out.trans (hT.mono HB3.out.size)⟩
           case measure=>have:=HKN.out;simp [intOf];omega
         · go_wp2_with fail
           refine bg fun d hHeld=>?_
           have hT:=hHeld
           refine tk 0 ?_
           refine tk 1 ?_
           refine tk 2 ?_
           refine tk 3 ?_
           refine tk 4 ?_
           refine tk 5 ?_ (hy:=fun w9 hSw=>by have cc:=cell_later ck hSw;go_simp;(try with_reducible rfl))
           refine tk 6 ?_
           refine tk 7 ?_
           refine tk 8 ?_ (hy:=fun w9 hSw=>by have cc:=cell_later c0 hSw;go_simp;(try with_reducible rfl))
           refine tk 9 ?_
           refine tk 10 ?_
           refine tk 11 ?_ (hy:=fun w9 hSw=>by have cc:=cell_later ci hSw;go_simp;(try with_reducible rfl))
           refine rd 12 fun K hK=>?_
           go_simp
           refine (refIn_any ak _ ck2 _ t _ (HTK.out.later hT) rfl hlk).mono ?_
           rintro e x12 ⟨rfl,hx12⟩
           replace hx12:=hx12.symm
           subst hx12
           go_wp2_with fail
           refine hK.out _ _ hHeld (fun _=>?_)
           clear hK K
           try simp only [Act.put,s_put,s_0,s_1]
           refine tk 13 ?_
           refine tk 14 ?_
           refine dn ?_
           go_wp2_with fail
           go_roundw
           case rel=>exact ⟨m + 1,memB r[k] t,HKN.out,rfl,by go_num,⟨by omega,by rw [Nat.add_sub_cancel,HST.out,Bool.true_and]⟩,HB3.out.trans (hT.mono HB3.out.size)⟩
           case measure=>have:=HKN.out;simp [intOf];omega
       · obtain rfl:m = n:=by omega
         clear hkm
         have hpt:b = P t:=by
          rw [HBB.out,HP.out]
          have:=HN.out
          have:=HM.out
          rw [show k = r.length by omega,List.take_length]
         have hfl:=filter_take P l0 i (by rw [← HN0.out];exact hin)
         rw [show l0[i]'(by rw [← HN0.out];exact hin) = t by rw [HTT.out];simp [atS,HN0.out ▸ hin],← hpt] at hfl
         have HFL:=hid hfl
         have hlq:((l0.take i).filter P).length ≤ 1048576:=by
          have h1:=List.length_filter_le P (l0.take i)
          rw [List.length_take] at h1
          omega
         have HO3:=own_laterS HO.out HB3.out
         obtain ⟨al,cl,rfl⟩:=row_slice HO3
         have h1s:w1.heap.size ≤ wr.heap.size:=HB13.out.size
         cases b
         · clear hpt hfl
           go_wp2_with fail
           go_roundw
           case rel=>exact ⟨i + 1,_,HIN.out,rfl,by simp,by show World.ownsRow _ _ _ _ _ _ _;rw [HFL.out,if_neg (by decide),List.append_nil];exact HO3,HB13.out⟩
           case measure=>have:=HIN.out;simp [intOf];omega
         · obtain ⟨v4,w4,r4,o4,b4⟩:=push_str HO3 h1s (by omega) t
           have HR4:=hid r4
           have HB4:Hid (Below w1.heap.size w1 w4):=HB13.out.trans b4
           have HO4:=hid o4
           clear hpt hfl r4 b4 o4
           go_wp2_with (at_builtin;refine wpList_append_run rfl (.tmp 45) (.tmp 52) 37 rfl _ _ _ rfl rfl HR4.out ?_)
           go_roundw
           case rel=>exact ⟨i + 1,v4,HIN.out,rfl,by simp,by rw [HFL.out,if_pos rfl,List.length_append];exact HO4.out,HB4.out⟩
           case measure=>have:=HIN.out;simp [intOf];omega
    · obtain rfl:n0 = i:=by omega
      obtain ⟨al,cl,rfl⟩:=row_slice HO.out
      go_wp2_with fail
      go_ret
      refine ⟨_,rfl,?_,HB.out.trans ((HBA.out.trans (HB2.out.mono HBA.out.size)).mono HB.out.size)⟩
      rw [HAL.out,HL.out]
      show World.ownsRow _ _ _ _ _ (l0.filter _).length (cellsS (l0.filter _))
      rw [← HP.out]
      have hfin:(l0.take n0).filter P = l0.filter P:=by rw [HN0.out,List.take_length]
      rw [← hfin]
      exact own_low3 HO.out (Nat.le_trans HB.out.size HBA.out.size)
end Go.Proofs.YtkfpgkohkhhlhaaGreatDoor
