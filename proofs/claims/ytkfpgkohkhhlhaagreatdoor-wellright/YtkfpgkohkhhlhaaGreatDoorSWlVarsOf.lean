/- Texts that the last one stands on. -/
import Derived.Test.YtkfpgkohkhhlhaaGreatDoorSWlAs
import Derived.Test.YtkfpgkohkhhlhaaGreatDoorSTypNew
import Derived.Deep.QuietTactic
set_option maxRecDepth 100000
set_option maxHeartbeats 4000000
namespace Go.Proofs.YtkfpgkohkhhlhaaGreatDoor
open Go.RowKit Go.Shelf
attribute [local go_sem] Oper.semAt_some
theorem Ag.owning {B:Nat} {W A:World} (h:Ag B W A) {b e k m:Nat} {v:Value} {xs:List Value} (ho:W.ownsRow b e k v m xs):A.ownsRow b e k v m xs:=by
 refine ⟨ho.1,?_⟩
 rcases ho.2 with h2 | ⟨g,cap,cur,e1,hg,h3,h4⟩
 · exact .inl h2
 · exact .inr ⟨g,cap,cur,e1,hg,(h.cells _ _ rfl).2 h3,h4⟩
theorem owns_low {w:World} {B B' e k n:Nat} {v:Value} {xs:List Value} (h:w.ownsRow B e k v n xs) (hB:B' ≤ B):w.ownsRow B' e k v n xs:=by
 refine ⟨h.1,?_⟩
 rcases h.2 with h2 | ⟨g,cap,cur,e1,hg,h3⟩
 · exact .inl h2
 · exact .inr ⟨g,cap,cur,e1,Nat.le_trans hB hg,h3⟩
theorem row_slice {w:World} {base e k n:Nat} {v:Value} {xs:List Value} (h:w.ownsRow base e k v n xs):∃ a cap,v = .slice a n cap:=by
 rcases h.2 with ⟨e1,e2⟩ | ⟨g,cap,cur,e,_⟩
 · exact ⟨none,0,by rw [e1,e2]⟩
 · exact ⟨_,cap,e⟩
theorem row_cell {w:World} {base e n cap:Nat} {a:Option Addr} {xs:List Value} (h:w.ownsRow base e 1 (.slice a n cap) n xs) {i:Nat} (hi:i < n):∃ g,a = some ⟨g,0,none⟩∧base ≤ g∧g < w.heap.size∧w.cell? ⟨g,i,none⟩ = xs[i]?:=by
 rcases h.2 with ⟨e1,e2⟩ | ⟨g,cap',cur,e,hb,hg,hle,hm,hsz,ht⟩
 · omega
 · injection e with e1
   refine ⟨g,e1,hb,(Array.getElem?_eq_some_iff.1 hg).1,?_⟩
   rw [← ht,List.getElem?_take_of_lt (by omega)]
   simp [World.cell?,hg]
def ofK (k:Int) (l:List Pt):List ByteArray:=(l.filter fun y=>decide (y.k = k)).map (·.s)
theorem ofK_hit (k:Int) (l:List Pt) (y:Pt) (h:y.k = k):ofK k (l ++ [y]) = ofK k l ++ [y.s]:=by simp [ofK,h]
theorem ofK_miss (k:Int) (l:List Pt) (y:Pt) (h:¬ y.k = k):ofK k (l ++ [y]) = ofK k l:=by simp [ofK,h]
theorem ofK_len (k:Int) (l:List Pt):(ofK k l).length ≤ l.length:=by
 unfold ofK
 rw [List.length_map]
 exact List.length_filter_le _ _
theorem length_ndP:∀ x:Pt,(ndP x).length = x.size:=by
 refine Pt.ind fun x ih=>?_
 have key:∀ m,m ≤ x.n→(catN (fun i=>ndP (x.c i)) m).length = sumN (fun i=>(x.c i).size) m:=by
  intro m
  induction m with
  | zero=>intro _;rfl
  | succ m ihm=>intro hm;simp only [catN,sumN,List.length_append];rw [ihm (by omega),ih m (by omega)]
 rw [ndP_eq,List.length_cons,key _ (Nat.le_refl _),x.size_eq]
 omega
def one1 (x:Pt) (b:Nat):Pt:=.mk 0 ⟨#[]⟩ ⟨#[]⟩ 0 0 (some ⟨b,0,none⟩) 1 1 (fun _=>x)
theorem ndF_one (x:Pt) (b:Nat):ndF (one1 x b) = ndP x:=by simp [ndF,one1,Pt.n,Pt.c,catN]
theorem varsOf_in (n:Nat) (x:Pt) (k:Int) (w:World) (hX:IsP w x) (hsm:x.size ≤ 1048576) :
 CallsIn Fence.wide n Tryz.prog 115 #[x.val,.int .i64 k] w fun e w'=>∃ v,e = .returned v∧w'.ownsRow w.heap.size 9 1 v (ofK k (ndP x)).length (cellsS (ofK k (ndP x)))∧Below w.heap.size w w':=by
 have hdd:∀ k:Nat,(Fence.wide.depth.isSome = true→1 ≤ k):=fun k h=>by cases h
 obtain ⟨i0,hi,hz0,hz1,hz2⟩:=info_parts infoS
 refine callsIn_of_wp_marks Tryz.func115 rfl trivial ?_ rfl
 simp only [Tryz.ntmps115,List.size_toArray,List.length_cons,List.length_nil,Nat.reduceAdd,Nat.reduceSub,Array.replicate_succ,Array.replicate_zero,List.push_toArray,List.append_toArray,List.nil_append,List.cons_append]
 gi_wp2_with (refine ⟨trivial,hdd _,?_⟩;gi_at_call 35;refine (nodesW_in _ _ _ rfl).mono ?_;rintro e w' ⟨rfl,rfl⟩)
 obtain ⟨A,hA⟩:∃ A,((((w.alloc (.cells x.cells 25)).alloc (.cells #[.int .i64 k] 3)).alloc (.cells #[.slice none 0 0] 37)).alloc (.cells x.cells 25)).alloc (.cells #[.slice (some ⟨w.heap.size + 1 + 1 + 1,0,none⟩) 1 1] 23) = A:=⟨_,rfl⟩
 have hsz:A.heap.size = w.heap.size + 5:=by rw [← hA];simp
 have hB:Below w.heap.size w A:=by rw [← hA];exact ((((nwB w _).alloc (by simp) _).alloc (by simp;omega) _).alloc (by simp;omega) _).alloc (by simp;omega) _
 have hbk:Boxed A (w.heap.size + 1) 3 (.int .i64 k):=by
  have:=(((Boxed.new (w.alloc (.cells x.cells 25)) 3 (.int .i64 k)).alloc (.cells #[.slice none 0 0] 37)).alloc (.cells x.cells 25)).alloc (.cells #[.slice (some ⟨w.heap.size + 1 + 1 + 1,0,none⟩) 1 1] 23)
  rw [World.size_alloc,hA] at this
  exact this
 have hbn:Boxed A (w.heap.size + 2) 37 (.slice none 0 0):=by
  have:=((Boxed.new ((w.alloc (.cells x.cells 25)).alloc (.cells #[.int .i64 k] 3)) 37 (.slice none 0 0)).alloc (.cells x.cells 25)).alloc (.cells #[.slice (some ⟨w.heap.size + 1 + 1 + 1,0,none⟩) 1 1] 23)
  rw [World.size_alloc,World.size_alloc,hA] at this
  exact this
 have hnode:NodeP A (w.heap.size + 3) 0 x:=by
  have:=(nodeP_new (((w.alloc (.cells x.cells 25)).alloc (.cells #[.int .i64 k] 3)).alloc (.cells #[.slice none 0 0] 37)) 25 x).later ((Below.refl _ _).alloc (Nat.le_refl _) (.cells #[.slice (some ⟨w.heap.size + 1 + 1 + 1,0,none⟩) 1 1] 23))
  rw [World.size_alloc,World.size_alloc,World.size_alloc,hA] at this
  exact this
 have hbp:Boxed A (w.heap.size + 4) 23 (.slice (some ⟨w.heap.size + 1 + 1 + 1,0,none⟩) 1 1):=by
  have:=Boxed.new ((((w.alloc (.cells x.cells 25)).alloc (.cells #[.int .i64 k] 3)).alloc (.cells #[.slice none 0 0] 37)).alloc (.cells x.cells 25)) 23 (.slice (some ⟨w.heap.size + 1 + 1 + 1,0,none⟩) 1 1)
  rw [World.size_alloc,World.size_alloc,World.size_alloc,World.size_alloc,hA] at this
  exact this
 rw [hA]
 have hX1:PT (fun k=>k < w.heap.size ∨ k = w.heap.size + 3) A (one1 x (w.heap.size + 3)):=by
  refine (pT_eq _ _ _).2 ⟨Nat.le_refl _,by simp [one1,Pt.cap],fun i hi=>⟨w.heap.size + 3,0,rfl,.inr rfl,?_,PIn.xt (n:=w.heap.size) (fun k hk=>.inl hk) (hX.inn.below hB)⟩⟩
  obtain rfl:i = 0:=by simp only [one1,Pt.n] at hi;omega
  exact hnode
 have hlen:=length_ndP x
 refine nodesW_fold (w.heap.size + 1 + 1 + 1 + 1) (one1 x (w.heap.size + 3)) (fun k=>k < w.heap.size ∨ k = w.heap.size + 3)
  (fun pre W=>(∃ v,Boxed W (w.heap.size + 2) 37 v∧W.ownsRow (w.heap.size + 9) 9 1 v (ofK k pre).length (cellsS (ofK k pre)))∧Below w.heap.size w W∧Boxed W (w.heap.size + 1) 3 (.int .i64 k))
  rfl rfl hbp.cell (fun k hk=>by omega) hX1 ?_ ?_ ?_
  (fun b o=>{ tmps:=#[x.val,.int .i64 k,.pointer (some ⟨w.heap.size,0,none⟩),.pointer (some ⟨w.heap.size + 1,0,none⟩),.slice none 0 0,.pointer (some ⟨w.heap.size + 1 + 1,0,none⟩),.pointer (some ⟨b,o,none⟩),x.val,.slice (some ⟨w.heap.size + 1 + 1 + 1,0,none⟩) 1 1,.func (.func 89) #[] #[.pointer (some ⟨w.heap.size + 1 + 1 + 1 + 1,0,none⟩)],.pointer (some ⟨b,o,none⟩),undef,undef,undef,undef,undef,undef,undef,undef,undef,undef,undef,undef,undef,undef],defers:=[] }) ?_ ?_ ?_
 · rintro pre W B hag ⟨⟨v,h1,h2⟩,h3,h4⟩
   exact ⟨⟨v,hag.boxed h1,hag.owning h2⟩,hag.below (by omega) h3,hag.boxed h4⟩
 · exact fun pre W h=>⟨h.1,h.2.1.drew,h.2.2⟩
 · exact fun W h=>⟨⟨_,Boxed.kept_of hbn h (by omega),World.ownsRow_nil _ _ _ _⟩,hB.trans (h.mono (by omega)),Boxed.kept_of hbk h (by omega)⟩
 · intro l b o W K hK
   gi_wp2
   first | exact hK | simpa using hK
 · rintro l b o y pre W hb hn hx ⟨⟨v,h1,h2⟩,h3,h4⟩ hs ⟨post,hpo⟩
   have c1:=h1.cell
   have f1:=h1.frozen
   have c4:=h4.cell
   obtain ⟨d0,d1,d2,d3,d4,d5⟩:=hn
   have hpl:=ofK_len k pre
   have hlt:pre.length < 1048576:=by
    have:=congrArg List.length hpo
    rw [ndF_one,List.length_append,List.length_cons] at this
    omega
   clear hpo
   by_cases hk:y.k = k
   · have hk':(y.k == k) = true:=by simpa using hk
     gi_wp2
     refine wpIn_region_round (by kernel_rfl) (by kernel_rfl) (by kernel_rfl) ?_
     repeat (gi_big_quiet_step (fail))
     refine wpQuietIn_nil ?_
     intro _ hw'
     obtain ⟨nq,hw''⟩:=hw'
     subst hw''
     gi_wp2
     obtain ⟨V,hV⟩:∃ V,V = W.drewN nq:=⟨_,rfl⟩
     rw [← hV]
     have BV:Below W.heap.size W V:=by rw [hV];exact ⟨rfl,rfl,rfl,Nat.le_refl _,fun _ _=>rfl⟩
     have KV:KeepsFrom A.heap.size W V:=by rw [hV];exact ⟨Nat.le_refl _,fun _ _ _ h _=>h⟩
     have KpV:∀ T,Kp T W V:=fun T=>by rw [hV];exact fun _ _ _ _ e=>e
     have g1:Boxed V (w.heap.size + 2) 37 v:=by rw [hV];exact h1
     have g2:V.ownsRow (w.heap.size + 9) 9 1 v (ofK k pre).length (cellsS (ofK k pre)):=by rw [hV];exact h2
     have g3:Below w.heap.size w V:=by rw [hV];exact h3.trans ⟨rfl,rfl,rfl,Nat.le_refl _,fun _ _=>rfl⟩
     have g4:Boxed V (w.heap.size + 1) 3 (.int .i64 k):=by rw [hV];exact h4
     have d1:V.cell? ⟨b,o + 1,none⟩ = some (.string y.s):=by rw [hV];exact d1
     have hVs:A.heap.size + 4 ≤ V.heap.size:=by rw [hV];exact hs
     clear hV d0 d2 d3 d4 d5 c1 f1 c4
     have c1:=g1.cell
     have f1:=g1.frozen
     have hr0:(V.alloc (.cells #[.string y.s] 9)).drew.ownsRow (w.heap.size + 9) 9 1 v (ofK k pre).length (cellsS (ofK k pre)):=(g2.alloc _).drew
     obtain ⟨v',w1,hrun,hown',hgrow,hnil',hblk⟩:=run_append_own_at (P:=Tryz.prog) (w:=(V.alloc (.cells #[.string y.s] 9)).drew) (w.heap.size + 9) 37 37 9 i0 (.string ⟨#[]⟩) 1 16 Tryz.underlying37 hi hz0 hz1 hz2 rfl (by decide) v _ _ hr0 ⟨V.heap.size,0,none⟩ 1 1 [.string y.s] rfl
      (cell_one_new V (.string y.s) 9) (by simp [Value.oneCell']) (by unfold maxLen;omega) (by omega) (by show w.heap.size + 9 ≤ (V.alloc _).heap.size;simp;omega)
     obtain ⟨g',cap',rfl⟩:=ownsRow_succ hown'
     have hg':(V.alloc (.cells #[.string y.s] 9)).grownBy w1 v.ownBlock:=⟨hgrow.os,hgrow.tape,hgrow.output,hgrow.size,hgrow.block⟩
     have hv1:Boxed w1 (w.heap.size + 2) 37 v:=(g1.alloc _).kept hg' (g1.not_row (by decide) g2)
     have hv4:Boxed w1 (w.heap.size + 1) 3 (.int .i64 k):=(g4.alloc _).kept hg' (g4.not_row (by decide) g2)
     have c1':=(g1.alloc (.cells #[.string y.s] 9)).cell
     have c2:=hv1.cell
     have f2:=hv1.frozen
     have fin:foldPost A.heap.size (fun k=>(k < w.heap.size ∨ k = w.heap.size + 3) ∨ k = A.heap.size + 2 ∨ k = A.heap.size + 3) (fun W=>(∃ v,Boxed W (w.heap.size + 2) 37 v∧W.ownsRow (w.heap.size + 9) 9 1 v (ofK k (pre ++ [y])).length (cellsS (ofK k (pre ++ [y]))))∧Below w.heap.size w W∧Boxed W (w.heap.size + 1) 3 (.int .i64 k)) (fun _ _=>False) W .normal ⟨#[],[]⟩ (w1.setCell ⟨w.heap.size + 1 + 1,0,none⟩ (.slice (some ⟨g',0,none⟩) ((ofK k pre).length + 1) cap')):=by
      refine ⟨KV.trans ((((KeepsOthers.alloc V _).trans (KeepsOthers.of_grownBy hg' fun j o ej hj=>?_)).trans (KeepsOthers.setCell _ _ _)).from _),(KpV _).trans ?_,⟨_,hv1.set _,?_⟩,?_,hv4.other (by omega) _⟩
      · rcases (g2.alloc _).2 with ⟨rfl,_⟩ | ⟨g,cap,cur,rfl,_,hgb,_⟩
        · simp [Value.ownBlock] at ej
        · obtain rfl:g = j:=by simpa [Value.ownBlock] using ej
          rw [hgb] at hj;cases hj;rfl
      · intro k o hk _ e
        have hkl:k < w.heap.size + 9∧k ≠ w.heap.size + 2:=by omega
        refine (Below.heap_setCell w1 ⟨w.heap.size + 2,0,none⟩ _ k hkl.2).trans ((hg'.block k ?_ (row_ne_low g2 hkl.1)).trans ((Below.heap_alloc V _ k (Array.getElem?_eq_some_iff.1 e).1).trans e))
        have:=(Array.getElem?_eq_some_iff.1 e).1
        simp
        omega
      · rw [ofK_hit _ _ _ hk,List.length_append,cellsS,List.map_append]
        exact hown'.kept (grownBy_setCell' w1 (w.heap.size + 2) _) (.inr (hv1.not_row (by decide) hown').symm)
      · refine ((g3.alloc g3.size _).grown hg' (by have:=g3.size;simp;omega) fun j ej=>?_).setCell (p:=⟨w.heap.size + 1 + 1,0,none⟩) (by simp;omega) _
        have:=(g2.lt j ej).1
        omega
     refine wpIn_region_any (by kernel_rfl) ?_
     try (change wpAnyIn _ _ _ _ _ _ _ _ _ (World.drew _))
     refine wpAnyIn_ready (rs:=[0,1]) (by kernel_rfl) (by simp) ?_
     refine AllReadyIn.cons rfl (fun K hK=>?_) ?_
     · go_simp
       refine hK _ _ ?_
       clear hK K
       refine ri 1 fun K hK=>?_
       go_simp
       refine hK _ _ ?_
       clear hK K
       refine ri 2 fun K hK=>?_
       go_simp
       refine hK _ _ ?_
       clear hK K
       refine ri 3 fun K hK=>?_
       go_simp
       refine hK _ _ ?_
       clear hK K
       refine ri 4 fun K hK=>?_
       go_simp
       refine hK _ _ ?_
       clear hK K
       refine ri 5 fun K hK=>?_
       go_simp
       refine hK _ _ ?_
       clear hK K
       refine ri 6 fun K hK=>?_
       rw [if_pos (by rfl)]
       refine wpOpIn_append_run (.tmp 17) (.tmp 22) 37 rfl _ _ _ rfl rfl hrun ?_
       refine hK _ _ ?_
       clear hK K
       refine ri 7 fun K hK=>?_
       go_simp
       refine hK _ _ ?_
       clear hK K
       refine wpAnyIn_done (by kernel_rfl) ?_ _
       exact fin
     refine AllReadyIn.cons rfl (fun K hK=>?_) AllReadyIn.nil
     go_simp
     refine hK _ _ ?_
     clear hK K
     refine wpAnyIn_ready (rs:=[0,2]) (by kernel_rfl) (by simp) ?_
     refine AllReadyIn.cons rfl (fun K hK=>?_) ?_
     · go_simp
       refine hK _ _ ?_
       clear hK K
       refine ri 2 fun K hK=>?_
       go_simp
       refine hK _ _ ?_
       clear hK K
       refine ri 3 fun K hK=>?_
       go_simp
       refine hK _ _ ?_
       clear hK K
       refine ri 4 fun K hK=>?_
       go_simp
       refine hK _ _ ?_
       clear hK K
       refine ri 5 fun K hK=>?_
       go_simp
       refine hK _ _ ?_
       clear hK K
       refine ri 6 fun K hK=>?_
       rw [if_pos (by rfl)]
       refine wpOpIn_append_run (.tmp 17) (.tmp 22) 37 rfl _ _ _ rfl rfl hrun ?_
       refine hK _ _ ?_
       clear hK K
       refine ri 7 fun K hK=>?_
       go_simp
       refine hK _ _ ?_
       clear hK K
       refine wpAnyIn_done (by kernel_rfl) ?_ _
       exact fin
     refine AllReadyIn.cons rfl (fun K hK=>?_) AllReadyIn.nil
     go_simp
     refine hK _ _ ?_
     clear hK K
     refine wpAnyIn_ready (rs:=[0,3]) (by kernel_rfl) (by simp) ?_
     refine AllReadyIn.cons rfl (fun K hK=>?_) ?_
     · go_simp
       refine hK _ _ ?_
       clear hK K
       refine ri 3 fun K hK=>?_
       go_simp
       refine hK _ _ ?_
       clear hK K
       refine ri 4 fun K hK=>?_
       go_simp
       refine hK _ _ ?_
       clear hK K
       refine ri 5 fun K hK=>?_
       go_simp
       refine hK _ _ ?_
       clear hK K
       refine ri 6 fun K hK=>?_
       rw [if_pos (by rfl)]
       refine wpOpIn_append_run (.tmp 17) (.tmp 22) 37 rfl _ _ _ rfl rfl hrun ?_
       refine hK _ _ ?_
       clear hK K
       refine ri 7 fun K hK=>?_
       go_simp
       refine hK _ _ ?_
       clear hK K
       refine wpAnyIn_done (by kernel_rfl) ?_ _
       exact fin
     refine AllReadyIn.cons rfl (fun K hK=>?_) AllReadyIn.nil
     go_simp
     refine hK _ _ ?_
     clear hK K
     refine wpAnyIn_ready (rs:=[0,4]) (by kernel_rfl) (by simp) ?_
     refine AllReadyIn.cons rfl (fun K hK=>?_) ?_
     · go_simp
       refine hK _ _ ?_
       clear hK K
       refine ri 4 fun K hK=>?_
       go_simp
       refine hK _ _ ?_
       clear hK K
       refine ri 5 fun K hK=>?_
       go_simp
       refine hK _ _ ?_
       clear hK K
       refine ri 6 fun K hK=>?_
       rw [if_pos (by rfl)]
       refine wpOpIn_append_run (.tmp 17) (.tmp 22) 37 rfl _ _ _ rfl rfl hrun ?_
       refine hK _ _ ?_
       clear hK K
       refine ri 7 fun K hK=>?_
       go_simp
       refine hK _ _ ?_
       clear hK K
       refine wpAnyIn_done (by kernel_rfl) ?_ _
       exact fin
     refine AllReadyIn.cons rfl (fun K hK=>?_) AllReadyIn.nil
     go_simp
     refine hK _ _ ?_
     clear hK K
     refine wpAnyIn_ready (rs:=[0,5]) (by kernel_rfl) (by simp) ?_
     refine AllReadyIn.cons rfl (fun K hK=>?_) ?_
     · go_simp
       refine hK _ _ ?_
       clear hK K
       refine ri 5 fun K hK=>?_
       go_simp
       refine hK _ _ ?_
       clear hK K
       refine ri 6 fun K hK=>?_
       rw [if_pos (by rfl)]
       refine wpOpIn_append_run (.tmp 17) (.tmp 22) 37 rfl _ _ _ rfl rfl hrun ?_
       refine hK _ _ ?_
       clear hK K
       refine ri 7 fun K hK=>?_
       go_simp
       refine hK _ _ ?_
       clear hK K
       refine wpAnyIn_done (by kernel_rfl) ?_ _
       exact fin
     refine AllReadyIn.cons rfl (fun K hK=>?_) AllReadyIn.nil
     go_simp
     refine hK _ _ ?_
     clear hK K
     refine ri 0 fun K hK=>?_
     go_simp
     refine hK _ _ ?_
     clear hK K
     refine ri 6 fun K hK=>?_
     rw [if_pos (by rfl)]
     refine wpOpIn_append_run (.tmp 17) (.tmp 22) 37 rfl _ _ _ rfl rfl hrun ?_
     refine hK _ _ ?_
     clear hK K
     refine ri 7 fun K hK=>?_
     go_simp
     refine hK _ _ ?_
     clear hK K
     refine wpAnyIn_done (by kernel_rfl) ?_ _
     exact fin
   · have hk':(y.k == k) = false:=by simpa using hk
     gi_wp2
     refine wpIn_region_round (by kernel_rfl) (by kernel_rfl) (by kernel_rfl) ?_
     repeat (gi_big_quiet_step (fail))
     refine wpQuietIn_nil ?_
     intro _ hw'
     obtain ⟨nq,hw''⟩:=hw'
     subst hw''
     gi_wp2
     exact ⟨⟨Nat.le_refl _,fun _ _ _ h _=>h⟩,fun _ _ _ _ e=>e,⟨v,h1,by rw [ofK_miss _ _ _ hk];exact h2⟩,h3.trans ⟨rfl,rfl,rfl,Nat.le_refl _,fun _ _=>rfl⟩,h4⟩
 · rintro D W hD ⟨⟨v,h1,h2⟩,h3,h4⟩ hK
   rw [ndF_one] at h2
   have c1:=h1.cell
   gi_wp2
   refine ⟨by simp,.inl ⟨_,_,rfl,run_takeDeferred hK,?_⟩⟩
   exact ⟨_,results_tmp rfl _ _ _,_,rfl,owns_low (ownsRow_putObj h2 _ hK rfl) (by omega),h3.trans (belowK_b (w:=w) (Nat.le_refl _) W D _ _ (by omega) hK rfl rfl)⟩
def memB (l:List ByteArray) (s:ByteArray):Bool:=l.any fun t=>decide (t = s)
theorem memB_iff {l:List ByteArray} {s:ByteArray}:memB l s = true ↔ s ∈ l:=by
 rw [memB,List.any_eq_true]
 constructor
 · rintro ⟨t,ht,e⟩
   rw [← of_decide_eq_true e];exact ht
 · exact fun h=>⟨s,h,decide_eq_true rfl⟩
theorem mem_atS {l:List ByteArray} {s:ByteArray}:s ∈ l ↔ ∃ j,j < l.length∧atS l j = s:=by
 rw [← lstS_mem,lstS_all]
theorem indexS_any (a:Option Addr) (n cap:Nat) (l:List ByteArray) (s:ByteArray) (w:World) (h:Txs w a n (atS l)) (hl:l.length = n) (hn:n ≤ 9223372036854775807) :
 Calls Tryz.prog 95 #[.slice a n cap,.string s] w fun e w'=>∃ i:Int,e = .returned (.int .i64 i)∧(0 ≤ i ↔ s ∈ l)∧∃ q,w' = w.drewN q:=by
 have HT:=hid h
 have HL:=hid hl
 clear h hl
 go_enter Tryz.func95,Tryz.ntmps95
 go_wp2
 go_loopw [8] (fun u wr=>∃ k:Nat,k ≤ n∧u = .int .i64 k∧Hid (∀ j,j < k→atS l j ≠ s)∧∃ q,wr = w.drewN q) (fun u _=>n - (intOf u).toNat)
 case atStart=>exact ⟨0,Nat.zero_le _,rfl,fun j hj=>absurd hj (Nat.not_lt_zero _),0,rfl⟩
 case round =>
  obtain ⟨k,hk,rfl,Hne,q,rfl⟩:=hrel
  by_cases hkn:k < n
  · obtain ⟨b,o,rfl,hc⟩:=HT.out (by omega)
    have hck:=hc k hkn
    have hck':∀ q,(w.drewN q).cell? ⟨b,o + k,none⟩ = some (.string (atS l k)):=fun q=>hck
    have HK:=hid hkn
    clear hc hck
    by_cases e:atS l k = s
    · have es:=str_yes e
      have es':=str_yes e.symm
      have HE:=hid e
      clear e
      go_wp2
      try go_quiet (fail)
      try go_wp2
      go_ret
      exact ⟨_,rfl,⟨fun _=>mem_atS.2 ⟨k,by rw [HL.out];exact HK.out,HE.out⟩,fun _=>by omega⟩,_,rfl⟩
    · have es:=str_not e
      have es':=str_not (fun h=>e (Eq.symm h))
      have HE:=hid e
      clear e
      go_wp2
      try go_quiet (fail)
      try go_wp2
      go_roundw
      case rel =>
       refine ⟨k + 1,HK.out,by simp,fun j hj=>?_,_,rfl⟩
       by_cases ej:j = k
       · rw [ej];exact HE.out
       · exact Hne.out j (by omega)
      case measure=>have:=HK.out;simp [intOf];omega
  · have hkn':k = n:=by omega
    subst hkn'
    go_wp2
    go_ret
    refine ⟨_,rfl,⟨fun h=>absurd h (by decide),fun h=>?_⟩,_,rfl⟩
    obtain ⟨j,hj,e⟩:=mem_atS.1 h
    exact absurd e (Hne.out j (by rw [← HL.out];exact hj))
theorem containsS_any (a:Option Addr) (n cap:Nat) (l:List ByteArray) (s:ByteArray) (w:World) (h:Txs w a n (atS l)) (hl:l.length = n) (hn:n ≤ 9223372036854775807) :
 Calls Tryz.prog 42 #[.slice a n cap,.string s] w fun e w'=>e = .returned (.bool (memB l s))∧∃ q,w' = w.drewN q:=by
 have C:=indexS_any a n cap l s w h hl hn
 clear h hl
 go_enter Tryz.func42,Tryz.ntmps42
 go_wp2_with (go_at_call 95;refine C.mono ?_;rintro e w2 ⟨i,rfl,hi,q,rfl⟩)
 go_ret
 exact ⟨by rw [show memB l s = decide (0 ≤ i) by rw [Bool.eq_iff_iff,memB_iff,← hi,decide_eq_true_eq]];rfl,q,rfl⟩
def plainV:Value→Bool
 | .slice ..=>false
 | .pointer ..=>false
 | _=>true
def Stay (w w':World):Prop:=(∀ p v,plainV v = true→w.cell? p = some v→w'.cell? p = some v)∧∀ (k:Nat) (es:Array MapEntry) (c:Nat),w.heap[k]? = some (Obj.map es c)→w'.heap[k]? = some (Obj.map es c)
theorem NamesIn.stay {w w':World} {p m n:Nat} {V:Nat→ByteArray} {S:Nat→Sch} (h:NamesIn w p m n V S) (hs:Stay w w'):NamesIn w' p m n V S:=by
 obtain ⟨D,ho,hf⟩:=h.map
 obtain ⟨es,clock,h1,h2⟩:=ho
 refine ⟨hs.1 _ _ rfl h.box,⟨D,⟨es,clock,hs.2 _ _ _ h1,h2⟩,hf⟩,fun j hj=>⟨fun h0=>?_,(h.flds j hj).2⟩⟩
 obtain ⟨b,off,e,hc⟩:=(h.flds j hj).1 h0
 exact ⟨b,off,e,fun i hi=>⟨⟨hs.1 _ _ rfl (hc i hi).1.1,hs.1 _ _ rfl (hc i hi).1.2⟩,(hc i hi).2⟩⟩
theorem Txs.stay {w w':World} {a:Option Addr} {n:Nat} {S:Nat→ByteArray} (h:Txs w a n S) (hs:Stay w w'):Txs w' a n S:=fun h0=>by
 obtain ⟨b,o,e,hc⟩:=h h0
 exact ⟨b,o,e,fun j hj=>hs.1 _ _ rfl (hc j hj)⟩
theorem stay_set {w:World} {b o:Nat} {u v:Value} (hu:w.cell? ⟨b,o,none⟩ = some u) (hp:plainV u = false):Stay w (w.setCell ⟨b,o,none⟩ v):=by
 refine ⟨fun p x hx hc=>?_,fun k es c hk=>?_⟩
 · by_cases e:p = ⟨b,o,none⟩
   · rw [e,hu] at hc
     cases hc
     rw [hp] at hx
     cases hx
   · exact (World.cell?_setCell_other _ _ _ _ fun q=>e q.symm).trans hc
 · refine (Below.heap_setCell w ⟨b,o,none⟩ v k fun e=>?_).trans hk
   obtain ⟨ob,ho,hi⟩:=cells_of_cell hu
   have e':k = b:=e
   rw [e'] at hk
   rw [hk] at ho
   cases ho
   cases hi
theorem Stay.trans {A B C:World} (h:Stay A B) (g:Stay B C):Stay A C:=⟨fun p v hv hc=>g.1 p v hv (h.1 p v hv hc),fun k es c hk=>g.2 k es c (h.2 k es c hk)⟩
theorem Stay.of_below {A B:World} (h:Below A.heap.size A B):Stay A B:=⟨fun _ _ _ hc=>cell_later hc h,fun k _ _ hk=>(h.block k (Array.getElem?_eq_some_iff.1 hk).1).trans hk⟩
theorem nodeP_off {w:World} {b:Nat} {x:Pt} (h:NodeP w b 1 x) (o:Nat) (ho:7 ≤ o) (v:Value):NodeP (w.setCell ⟨b,o,none⟩ v) b 1 x :=
 h.of fun j hj=>World.cell?_setCell_other _ _ _ _ fun e=>by injection e with _ e;omega
def Bt (b:Nat) (W W':World):Prop:=Below b W W'∧∀ k,k < W.heap.size→k ≠ b→W'.heap[k]? = W.heap[k]?
theorem Bt.of_below {b:Nat} {W W':World} (h:Below W.heap.size W W') (hb:b ≤ W.heap.size):Bt b W W':=⟨h.mono hb,fun k hk _=>h.block k hk⟩
theorem Bt.trans {b:Nat} {A B C:World} (h:Bt b A B) (g:Bt b B C):Bt b A C:=⟨h.1.trans g.1,fun k hk hne=>(g.2 k (Nat.lt_of_lt_of_le hk h.1.size) hne).trans (h.2 k hk hne)⟩
theorem Bt.boxed {b:Nat} {W W':World} (h:Bt b W W') {g:Nat} {t:TypeId} {v:Value} (hb:Boxed W g t v) (hne:g ≠ b):Boxed W' g t v:=(h.2 g hb.lt hne).trans hb
theorem Bt.set {b:Nat} {W:World} (o:Nat) (v:Value):Bt b W (W.setCell ⟨b,o,none⟩ v):=⟨(Below.refl _ W).setCell (p:=⟨b,o,none⟩) (Nat.le_refl _) _,fun k _ hne=>Below.heap_setCell W ⟨b,o,none⟩ v k hne⟩
theorem put4 {W:World} {b:Nat} {bk:Value} {q:Qy} (h:AB W b bk q (.slice none 0 0) (.slice none 0 0) (.slice none 0 0) (.pointer none)) (x1 x2 x3 x4:Value) :
 ∃ Z,(((W.setCell ⟨b,12,none⟩ x1).setCell ⟨b,13,none⟩ x2).setCell ⟨b,14,none⟩ x3).setCell ⟨b,15,none⟩ x4 = Z∧AB Z b bk q x1 x2 x3 x4∧Bt b W Z∧Stay W Z:=by
 have h1:AB (W.setCell ⟨b,12,none⟩ x1) b bk q x1 (.slice none 0 0) (.slice none 0 0) (.pointer none):=heap_set h
 have h2:AB ((W.setCell ⟨b,12,none⟩ x1).setCell ⟨b,13,none⟩ x2) b bk q x1 x2 (.slice none 0 0) (.pointer none):=heap_set h1
 have h3:AB (((W.setCell ⟨b,12,none⟩ x1).setCell ⟨b,13,none⟩ x2).setCell ⟨b,14,none⟩ x3) b bk q x1 x2 x3 (.pointer none):=heap_set h2
 refine ⟨_,rfl,heap_set h3,(((Bt.set 12 x1).trans (Bt.set 13 x2)).trans (Bt.set 14 x3)).trans (Bt.set 15 x4),?_⟩
 exact (((stay_set h.made.1 rfl).trans (stay_set h1.made.2.1 rfl)).trans (stay_set h2.made.2.2.1 rfl)).trans (stay_set h3.made.2.2.2 rfl)
abbrev fstL (x:Pt):List Pt:=firstL (usesP x)
abbrev fstV (x:Pt):Nat→ByteArray:=atS ((fstL x).map (·.s))
abbrev fstT (x:Pt):Nat→ByteArray:=atS ((fstL x).map (·.t))
def NamesJ (w:World) (x:Pt) (ns:Nat) (Q:Nat→Sch) (po:Option Addr):Prop :=
 newZ (fstL x).length (fstL x).length (fstT x) ns Q = 0→∃ p m S,po = some ⟨p,0,none⟩∧NamesIn w p m (fstL x).length (fstV x) S∧∀ j,j < (fstL x).length→∃ i,idx (fun i=>(Q i).nm) (fstT x j) ns = some i∧SameS (Q i) (S j)
def Asked (w:World) (b:Nat) (bk:Value) (q:Qy) (ns:Nat) (Q:Nat→Sch):Prop :=
 ∃ av cv a6 c6 a5 c5 po,AB w b bk q (.slice av (fstL q.p).length cv) (.slice a6 (ofK 6 (ndP q.p)).length c6) (.slice a5 (ofK 5 (ndP q.p)).length c5) (.pointer po)∧Txs w av (fstL q.p).length (fstV q.p)∧Txs w a6 (ofK 6 (ndP q.p)).length (atS (ofK 6 (ndP q.p)))∧Txs w a5 (ofK 5 (ndP q.p)).length (atS (ofK 5 (ndP q.p)))∧NamesJ w q.p ns Q po
theorem varsOf_any (x:Pt) (k:Int) (w:World) (hX:IsP w x) (hsm:x.size ≤ 1048576) :
 Calls Tryz.prog 115 #[x.val,.int .i64 k] w fun e w'=>∃ v,e = .returned v∧w'.ownsRow w.heap.size 9 1 v (ofK k (ndP x)).length (cellsS (ofK k (ndP x)))∧Below w.heap.size w w' :=
 (callsIn_wide (n:=3)).1 (varsOf_in 3 x k w hX hsm)
theorem own_txs' {w:World} {base n cap:Nat} {a:Option Addr} {l:List ByteArray} (h:w.ownsRow base 9 1 (.slice a n cap) n (cellsS l)):Txs w a n (atS l):=by
 obtain ⟨a',cap',e,ht,_⟩:=own_txs h
 cases e
 exact ht
theorem types_any (w0:World) (b:Nat) (a:Option Addr) (ns cs:Nat) (Q:Nat→Sch) (q:Qy) (W:World) (h:AB W b (.slice a ns cs) q (.slice none 0 0) (.slice none 0 0) (.slice none 0 0) (.pointer none)) (_:w0.heap.size ≤ b) (hBW:Below w0.heap.size w0 W)
 (hS:Schs w0 a ns Q) (hX:IsP w0 q.p) (hsm:q.p.size ≤ 1048576) (hok:POk q.p) :
 Calls Tryz.prog 67 #[.pointer (some ⟨b,0,none⟩)] W fun e w'=>∃ v,e = .returned v∧ErrW (newZ (fstL q.p).length (fstL q.p).length (fstT q.p) ns Q) v∧Bt b W w'∧Asked w' b (.slice a ns cs) q ns Q:=by
 obtain ⟨L,hL⟩:∃ L,L = fstL q.p:=⟨_,rfl⟩
 have hLl:L.length ≤ 1048576:=by rw [hL];have:=length_firstL (usesP q.p);have:=length_uses q.p;show (firstL _).length ≤ _;omega
 have C1:=vars12_any q.p W (hX.later hBW) hsm hok
 rw [show firstL (usesP q.p) = L from hL.symm] at C1
 have HL:=hid hL
 have e1:vs1 L L.length = cellsS (L.map (·.s)):=by simp [vs1,cellsS]
 have e2:vs2 L L.length = cellsS (L.map (·.t)):=by simp [vs2,cellsS]
 have l1:(vs1 L L.length).length = L.length:=by simp [vs1]
 have l2:(vs2 L L.length).length = L.length:=by simp [vs2]
 have HVs:Hid (∀ j,j < L.length→(atS (L.map (·.s)) j).size ≤ maxLen):=fun j hj=>by
  have hm:L[j] ∈ usesP q.p:=mem_firstL (by rw [show firstL (usesP q.p) = L from hL.symm];exact List.getElem_mem hj)
  have:=(uses_ok hok _ hm).1
  simpa [atS,hj] using this
 have key:Hid (∀ av cv v2 v3 w1,R3 W.heap.size w1 (.slice av L.length cv) v2 v3 (vs1 L L.length) (vs2 L L.length) (vs3 L L.length)→Below W.heap.size W w1→∃ at_ ct,v2 = .slice at_ L.length ct∧Txs w1 av L.length (atS (L.map (·.s))) ∧
  Calls Tryz.prog 114 #[.slice a ns cs,.slice av L.length cv,.slice at_ L.length ct] w1 fun e w'=>∃ po,e = .returned (.tuple #[.pointer po,.int .i64 (newZ L.length L.length (atS (L.map (·.t))) ns Q)])∧(newZ L.length L.length (atS (L.map (·.t))) ns Q = 0→∃ p m S,po = some ⟨p,0,none⟩∧NamesIn w' p m L.length (atS (L.map (·.s))) S∧∀ j,j < L.length→∃ i,idx (fun i=>(Q i).nm) (atS (L.map (·.t)) j) ns = some i∧SameS (Q i) (S j))∧Below w1.heap.size w1 w'):=by
  intro av cv v2 v3 w1 h3 hB1
  have o1:=h3.o1
  have o2:=h3.o2
  rw [l1,e1] at o1
  rw [l2,e2] at o2
  obtain ⟨at_,ct,rfl⟩:=row_slice o2
  refine ⟨at_,ct,rfl,own_txs' o1,?_⟩
  refine (new_any a ns cs Q av L.length cv _ at_ L.length ct _ w1 ((hS.later hBW).later hB1) (own_txs' o1) (own_txs' o2) hLl HVs.out).mono ?_
  rintro e w' (⟨hz,-,p,m,S,rfl,hn,hs,hB⟩ | ⟨hz,rfl,hB⟩)
  · exact ⟨_,by rw [hz],fun _=>⟨p,m,S,rfl,hn,hs⟩,hB⟩
  · exact ⟨_,rfl,fun h=>absurd h hz,hB⟩
 have HAB:=hid h
 have HCV:Hid (∀ (k:Int) (d:World),Below W.heap.size W d→Calls Tryz.prog 115 #[q.p.val,.int .i64 k] d fun e w'=>∃ v,e = .returned v∧w'.ownsRow d.heap.size 9 1 v (ofK k (ndP q.p)).length (cellsS (ofK k (ndP q.p)))∧Below d.heap.size d w'):=fun k d hd=>varsOf_any q.p k d (hX.later (hBW.trans (hd.mono hBW.size))) hsm
 have c0:=h.book
 obtain ⟨d1,d2,d3,d4,d5,d6⟩:=h.node.at1
 have hblt:=h.lt
 clear h hS hX hsm hok hL e1 e2 l1 l2
 go_enter Tryz.func67,Tryz.ntmps67
 go_wp2_with (first
  | (go_at_call 17;refine C1.mono ?_;clear C1;rintro e w1 ⟨v1,v2,v3,rfl,h3,hB1⟩
     obtain ⟨av,cv,rfl⟩:=row_slice h3.o1
     rw [show (vs1 L L.length).length = L.length by simp [vs1]] at h3 ⊢
     obtain ⟨at_,ct,rfl,hTx,CN⟩:=key.out av cv v2 v3 w1 h3 hB1
     obtain ⟨a3,c3,rfl⟩:=row_slice h3.o3
     have HTx:=hid hTx
     have k0:=(HAB.out.later hB1).book
     clear key hTx h3)
  | (go_at_call 114;refine CN.mono ?_;clear CN;rintro e W2 ⟨po,rfl,hnew,hB2⟩))
 have hBW2:Below W.heap.size W W2:=hB1.trans (hB2.mono hB1.size)
 have HAB2:Hid (AB W2 b _ q _ _ _ _):=HAB.out.later hBW2
 have HN2:Hid (NodeP W2 b 1 q.p):=HAB2.out.node
 have CV:Hid (∀ (k:Int) (d:World),Below W2.heap.size W2 d→Calls Tryz.prog 115 #[q.p.val,.int .i64 k] d fun e w'=>∃ v,e = .returned v∧w'.ownsRow d.heap.size 9 1 v (ofK k (ndP q.p)).length (cellsS (ofK k (ndP q.p)))∧Below d.heap.size d w'):=fun k d hd=>HCV.out k d (hBW2.trans (hd.mono hBW2.size))
 have HBL:Hid (b ≤ W2.heap.size):=by have:=hBW2.size;show b ≤ _;omega
 have HNEW:Hid _:=hnew
 have HTX:Hid (Txs W2 av L.length (atS (L.map (·.s)))):=HTx.out.later hB2
 clear HAB HCV hnew HTx
 have HAB:Hid (AB W2 b _ q _ _ _ _):=HAB2.out
 clear HAB2
 refine wp_region_noPanic ?_
 refine wp_region_held_drew (S:=fun w'=>Below b W2 w'∧NodeP w' b 1 q.p) (by kernel_rfl) ⟨(Below.refl _ _).drew,HN2.out⟩ (fun hHeld=>?_)
 have hT:Below W2.heap.size W2 W2.drew:=(Below.refl _ _).drew
 obtain ⟨d,hd⟩:∃ d,d = W2.drew:=⟨_,rfl⟩
 rw [← hd] at hHeld hT ⊢
 clear hd
 refine tk 0 ?_
 refine tk 1 ?_
 refine tk 2 ?_
 refine tk 3 ?_
 refine tk 4 ?_
 refine tk 5 ?_
 refine tk 6 ?_
 refine tk 7 ?_
 refine tk 8 ?_
 refine tk 9 ?_ (hy:=fun w9 hSw=>by obtain ⟨d1,d2,d3,d4,d5,d6⟩:=hSw.2.at1;go_simp;(try with_reducible rfl))
 refine tk 11 ?_
 refine tk 12 ?_
 refine tk 13 ?_
 refine tk 14 ?_
 refine tk 15 ?_ (hy:=fun w9 hSw=>by obtain ⟨d1,d2,d3,d4,d5,d6⟩:=hSw.2.at1;go_simp;(try with_reducible rfl))
 refine tk 17 ?_
 refine rd 10 fun K hK=>?_
 go_simp
 refine (CV.out 6 d hT).mono ?_
 rintro e x10 ⟨v10,rfl,ho10,hN10⟩
 obtain ⟨a10,c10,rfl⟩:=row_slice ho10
 go_wp2_with fail
 have hT10:Below W2.heap.size W2 x10:=hT.trans (hN10.mono hT.size)
 refine hK.out _ _ ⟨hHeld.1.trans (hN10.mono (Nat.le_trans HBL.out hT.size)),hHeld.2.later hN10⟩ (fun hHeld=>?_)
 clear hK K hT;have hT:Below W2.heap.size W2 x10:=hT10;clear hT10
 try simp only [Act.put,s_put,s_0,s_1]
 refine rd 16 fun K hK=>?_
 go_simp
 refine (CV.out 5 x10 hT).mono ?_
 rintro e x16 ⟨v16,rfl,ho16,hN16⟩
 obtain ⟨a16,c16,rfl⟩:=row_slice ho16
 go_wp2_with fail
 have hT16:Below W2.heap.size W2 x16:=hT.trans (hN16.mono hT.size)
 refine hK.out _ _ ⟨hHeld.1.trans (hN16.mono (Nat.le_trans HBL.out hT.size)),hHeld.2.later hN16⟩ (fun hHeld=>?_)
 clear hK K hT;have hT:Below W2.heap.size W2 x16:=hT16;clear hT16
 try simp only [Act.put,s_put,s_0,s_1]
 obtain ⟨Z,hZ,hABZ,hBZ,hSZ⟩:=put4 (HAB.out.later hT) (.slice av L.length cv) (.slice a10 (ofK 6 (ndP q.p)).length c10) (.slice a16 (ofK 5 (ndP q.p)).length c16) (.pointer po)
 obtain ⟨g12,g13,g14,g15⟩:=(HAB.out.later hT).made
 have hfz:=(HAB.out.later hT).frozen
 refine tk 18 ?_
 refine tk 19 ?_
 refine rd 20 fun K hK=>?_
 go_simp
 refine hK.out _ _ ⟨hHeld.1.setCell (p:=⟨b,12,none⟩) (Nat.le_refl _) _,nodeP_off hHeld.2 12 (by decide) _⟩ (fun hHeld=>?_)
 clear hK K
 try simp only [Act.put,s_put,s_0,s_1]
 refine tk 21 ?_
 refine tk 22 ?_
 refine rd 23 fun K hK=>?_
 go_simp
 refine hK.out _ _ ⟨hHeld.1.setCell (p:=⟨b,13,none⟩) (Nat.le_refl _) _,nodeP_off hHeld.2 13 (by decide) _⟩ (fun hHeld=>?_)
 clear hK K
 try simp only [Act.put,s_put,s_0,s_1]
 refine tk 24 ?_
 refine tk 25 ?_
 refine rd 26 fun K hK=>?_
 go_simp
 refine hK.out _ _ ⟨hHeld.1.setCell (p:=⟨b,14,none⟩) (Nat.le_refl _) _,nodeP_off hHeld.2 14 (by decide) _⟩ (fun hHeld=>?_)
 clear hK K
 try simp only [Act.put,s_put,s_0,s_1]
 refine tk 27 ?_
 refine tk 28 ?_
 refine rd 29 fun K hK=>?_
 go_simp
 refine hK.out _ _ (by rw [← hZ];exact ⟨hHeld.1.setCell (p:=⟨b,15,none⟩) (Nat.le_refl _) _,nodeP_off hHeld.2 15 (by decide) _⟩) (fun hHeld=>?_)
 clear hK K
 try simp only [Act.put,s_put,s_0,s_1]
 refine dn ?_
 have hBW16:=hBW2.trans (hT.mono hBW2.size)
 have FIN:Hid (Bt b W Z∧Asked Z b (.slice a ns cs) q ns Q):=by
  refine ⟨(Bt.of_below hBW16 (Nat.le_of_lt hblt)).trans hBZ,av,cv,a10,c10,a16,c16,po,?_,?_,?_,?_,?_⟩
  · rw [← HL.out];exact hABZ
  · have:=(HTX.out.later hT).stay hSZ
    rw [HL.out] at this
    exact this
  · exact (own_txs' (own_laterS ho10 hN16)).stay hSZ
  · exact (own_txs' ho16).stay hSZ
  · intro hz
    have hNZ:=HNEW.out
    rw [HL.out] at hNZ
    obtain ⟨p,m,S,e,hn,hs⟩:=hNZ hz
    exact ⟨p,m,S,e,(hn.later hT).stay hSZ,hs⟩
 have HE:Hid (newZ L.length L.length (atS (L.map (·.t))) ns Q = newZ (fstL q.p).length (fstL q.p).length (fstT q.p) ns Q):=by show _ = _;rw [HL.out]
 clear hABZ hBZ hSZ ho10 ho16 hHeld hT hN10 hN16 hZ g12 g13 g14 g15 hfz HNEW HTX
 go_wp2_with (go_at_call 113;refine (refused_any _ _).mono ?_;rintro e w2 ⟨rfl,rfl⟩)
 go_ret
 exact ⟨_,rfl,by rw [← HE.out];exact errW_of _,FIN.out⟩
end Go.Proofs.YtkfpgkohkhhlhaaGreatDoor
