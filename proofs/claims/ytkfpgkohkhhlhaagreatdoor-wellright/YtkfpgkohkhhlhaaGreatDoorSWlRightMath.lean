/- Texts that the last one stands on. -/
import Derived.Test.YtkfpgkohkhhlhaaGreatDoorSWlItem
import Derived.Test.YtkfpgkohkhhlhaaGreatDoorSQryCheckF
import Derived.LaidMore
import Derived.LaidHandle
import Derived.Stop.Joined
import Derived.Stop.LaidErr
import Derived.Stop.LaidTwo
set_option maxRecDepth 100000
set_option maxHeartbeats 8000000
namespace Go.Proofs.YtkfpgkohkhhlhaaGreatDoor
open Go.RowKit
theorem kind_vars {L:ByteArray→ByteArray→Option Int} {P:ByteArray→Prop} (hL:∀ v f k,L v f = some k→P v):∀ (x:X),TreeR x→(kindE L x).2 = 0→∀ t,hasVar t x→P t:=by
 refine X.ind fun x ih hT hk t ht=>?_
 obtain ⟨hN,hP⟩:=(treeR_eq x).1 hT
 rcases (hasVar_eq t x).1 ht with ⟨h2,rfl⟩ | ⟨i,hi,h⟩
 · rcases hN.2.2 with ⟨h,_⟩ | ⟨_,hn,_⟩ | ⟨h,_⟩ | ⟨h,_⟩ | ⟨h,_⟩
   · omega
   · rw [kindE_field h2 hn] at hk
     cases e:L x.s x.f with
     | none=>rw [e] at hk;cases hk
     | some k=>exact hL _ _ _ e
   · omega
   · omega
   · omega
 · refine ih i hi (hP i hi) ?_ t h
   cases x with
   | nil=>exact absurd hi (Nat.not_lt_zero _)
   | mk k v s f a n cap c =>
     by_cases e:lexN (fun i=>(kindE L (c i)).2) n = 0
     · exact lexN_zero.1 e i hi
     · simp only [kindE,if_neg e] at hk
       exact absurd hk e
theorem cond_vars {L:ByteArray→ByteArray→Option Int} {P:ByteArray→Prop} (hL:∀ v f k,L v f = some k→P v) {p:Pt} {x:X} (h:CondR L p x 0):∀ t,t ∈ varsX x→P t:=by
 obtain ⟨K,E,hk,hz⟩:=h
 have hc:condZ K E = 0:=by
  by_cases e:condZ K E = 0
  · exact e
  · rw [if_neg e] at hz
    exact absurd hz.symm e
 have hE:E = 0:=by
  unfold condZ at hc
  split at hc
  · cases hc
  · exact hc
 rcases hk with ⟨_,hT,_,he⟩ | ⟨_,_,he⟩
 · exact fun t ht=>kind_vars hL x hT (by rw [← he];exact hE) t ((mem_vars t x).1 ht)
 · omega
theorem look_known {x:Pt} {ns:Nat} {Q:Nat→Sch} (v f:ByteArray) (k:Int) (h:lookW x ns Q v f = some k):v ∈ (fstL x).map (·.s):=by
 unfold lookW lookN at h
 cases e:idx (fstV x) v (fstL x).length with
 | none=>rw [e] at h;cases h
 | some j =>
   obtain ⟨hj,he,_⟩:=idx_some _ _ _ _ e
   rw [← he]
   have hj':j < ((fstL x).map (·.s)).length:=by simpa using hj
   rw [show fstV x j = ((fstL x).map (·.s))[j] by simp [fstV,atS,hj]]
   exact List.getElem_mem hj'
theorem WellR.all {q:Qy} {ns:Nat} {Q:Nat→Sch} (h:WellR q ns Q 0):∀ j,j < 8→Az q ns Q j 0:=by
 rcases h with ⟨_,h⟩ | ⟨h,_⟩
 · exact h
 · exact absurd rfl h
theorem fst_zero {R:Nat→Int→Prop} {n:Nat} (h:FstR R n 0):∀ i,i < n→R i 0:=by
 rcases h with ⟨_,h⟩ | ⟨h,_⟩
 · exact h
 · exact absurd rfl h
theorem first_nodup (l:List Pt):((firstL l).map (·.s)).Nodup:=by
 have key:∀ (l acc:List Pt),(acc.map (·.s)).Nodup→((l.foldl addU acc).map (·.s)).Nodup:=by
  intro l
  induction l with
  | nil=>intro acc h;exact h
  | cons z l ih =>
    intro acc h
    refine ih (addU acc z) ?_
    cases e:idxF acc z.s with
    | some i=>rw [addU_some e];exact h
    | none =>
      rw [addU_none e,List.map_append,List.nodup_append]
      refine ⟨h,by simp,fun a ha b hb=>?_⟩
      obtain ⟨y,hy,rfl⟩:=List.mem_map.1 ha
      simp only [List.map_cons,List.map_nil,List.mem_singleton] at hb
      rw [hb]
      exact idxF_none.1 e y hy
 exact key l [] List.nodup_nil
theorem names_well {q:Qy} {ns:Nat} {Q:Nat→Sch} (h:WellR q ns Q 0):(namesQ q).length = (fstL q.p).length:=by
 have ha:=h.all
 have key:∀ t,t ∈ namesQ q ↔ t ∈ (fstL q.p).map (·.s):=by
  intro t
  rw [namesQ_mem,allV,List.mem_append,List.mem_append]
  constructor
  · rintro ((h | h) | h)
    · exact h
    · rw [mem_vars,hasVar_eq] at h
      rcases h with ⟨h,_⟩ | ⟨i,hi,h⟩
      · exact absurd h (show ¬ (16:Int) = 2 by decide)
      · exact cond_vars look_known (fst_zero (R:=fun i=>CondR (lookW q.p ns Q) q.p (q.c i)) (ha 5 (by omega)) i hi) t ((mem_vars t _).2 h)
    · obtain ⟨i,hi,rfl⟩:=(lstS_mem _ _ _).1 h
      have hz:(0:Int) = itemZ (lookW q.p ns Q) q.p (q.it i):=fst_zero (R:=fun i z=>z = itemZ (lookW q.p ns Q) q.p (q.it i)) (ha 7 (by omega)) i hi
      unfold itemZ at hz
      split at hz
      · rename_i hm
        exact memB_iff.1 hm
      · cases hz
  · exact fun h=>.inl (.inl h)
 have h1:=nodup_le _ _ (sorted_nodup _ (namesQ_sorted q)) fun x hx=>(key x).1 hx
 have h2:=nodup_le _ _ (first_nodup (usesP q.p)) fun x hx=>(key x).2 hx
 rw [List.length_map] at h1 h2
 exact Nat.le_antisymm h1 h2
def lessQ (q:Qy) (a:Option Addr) (n cap:Nat) (c:Nat→X) (win:Int):Qy:=⟨q.p,a,n,cap,c,q.key,q.mode,win,none,0,0,fun _=>⟨⟨#[]⟩,0,⟨#[]⟩,⟨#[]⟩⟩⟩
theorem less_well {q:Qy} {ns:Nat} {Q:Nat→Sch} (h:WellR q ns Q 0) (a:Option Addr) (n cap:Nat) (c:Nat→X) (win:Int) (hn:n ≤ q.n) (hc:∀ i,i < n→∃ j,j < q.n∧c i = q.c j) (hs:(lessQ q a n cap c win).x.size ≤ q.x.size) (hw:(win = q.win) ∨ (win = 0∧∀ i,¬ HasTail q.p i)):WellR (lessQ q a n cap c win) ns Q 0:=by
 have ha:=h.all
 refine .inl ⟨rfl,fun j hj=>?_⟩
 have hq:∀ i,i < 9→clN q i = 0:=lexN_zero.1 (show (0:Int) = chkQ q from ha 1 (by omega)).symm
 match j,hj with
 | 0,_=>exact ha 0 (by omega)
 | 1,_ =>
   refine (lexN_zero.2 fun i hi=>?_:chkQ (lessQ q a n cap c win) = 0).symm
   match i,hi with
   | 0,_=>exact hq 0 (by omega)
   | 1,_ =>
     have h2:cl2 q = 0:=hq 1 (by omega)
     show cl2 (lessQ q a n cap c win) = 0
     unfold cl2 at h2 ⊢
     split at h2
     · cases h2
     · rw [if_neg]
       show ¬ (16 < n ∨ 16 < 0)
       omega
   | 2,_ =>
     have h2:=lexN_zero.1 (show lexN (fun i=>chkX (q.c i)) q.n = 0 from hq 2 (by omega))
     refine lexN_zero.2 fun i hi=>?_
     obtain ⟨j,hj,e⟩:=hc i hi
     show chkX (c i) = 0
     rw [e];exact h2 j hj
   | 3,_ =>
     have h2:cl4 q = 0:=hq 3 (by omega)
     show cl4 (lessQ q a n cap c win) = 0
     unfold cl4 at h2 ⊢
     split at h2
     · cases h2
     · rw [if_neg (by omega)]
   | 4,_ =>
     have h2:cl5 q = 0:=hq 4 (by omega)
     show cl5 (lessQ q a n cap c win) = 0
     unfold cl5 at h2 ⊢
     split at h2
     · cases h2
     · rename_i hh
       rw [if_neg]
       rintro ⟨i,hi,hk⟩
       obtain ⟨j,hj,e⟩:=hc i hi
       exact hh ⟨j,hj,by rw [← e];exact hk⟩
   | 5,_=>exact hq 5 (by omega)
   | 6,_=>exact hq 6 (by omega)
   | 7,_ =>
     rcases hw with rfl | ⟨rfl,_⟩
     · exact hq 7 (by omega)
     · rfl
   | 8,_ =>
     show cl9 (lessQ q a n cap c win) = 0
     unfold cl9
     rw [if_pos]
     exact ⟨fun i hi=>absurd hi (Nat.not_lt_zero _),fun i hi=>absurd hi (Nat.not_lt_zero _)⟩
 | 2,_=>exact ha 2 (by omega)
 | 3,_ =>
   rcases hw with rfl | ⟨rfl,hno⟩
   · exact ha 3 (by omega)
   · exact ⟨.inr rfl,fun h=>absurd h (by decide),fun h=>absurd h.1.choose_spec (hno _)⟩
 | 4,_=>exact ha 4 (by omega)
 | 5,_ =>
   have h2:=fst_zero (R:=fun i=>CondR (lookW q.p ns Q) q.p (q.c i)) (ha 5 (by omega))
   refine .inl ⟨rfl,fun i hi=>?_⟩
   obtain ⟨j,hj,e⟩:=hc i hi
   show CondR (lookW q.p ns Q) q.p (c i) 0
   rw [e];exact h2 j hj
 | 6,_=>exact ha 6 (by omega)
 | 7,_=>exact .inl ⟨rfl,fun i hi=>absurd hi (Nat.not_lt_zero _)⟩
abbrev zeroQ:Array Value:=#[.int .i64 0,.string ⟨#[]⟩,.string ⟨#[]⟩,.int .i64 0,.int .i64 0,.slice none 0 0,.slice none 0 0,.string ⟨#[]⟩,.int .i64 0,.int .i64 0,.slice none 0 0]
theorem boxQ_put (q:Qy) (w:World):∃ A W,w.alloc (.cells zeroQ 29) = A∧A.heap[w.heap.size]? = some (.cells zeroQ 29 (0,0)) ∧
 ((((((((((A.setCell ⟨w.heap.size,0,none⟩ (.int .i64 q.p.k)).setCell ⟨w.heap.size,1,none⟩ (.string q.p.s)).setCell ⟨w.heap.size,2,none⟩ (.string q.p.t)).setCell ⟨w.heap.size,3,none⟩ (.int .i64 q.p.lo)).setCell ⟨w.heap.size,4,none⟩ (.int .i64 q.p.hi)).setCell ⟨w.heap.size,5,none⟩ (.slice q.p.a q.p.n q.p.cap)).setCell ⟨w.heap.size,6,none⟩ (.slice q.a q.n q.cap)).setCell ⟨w.heap.size,7,none⟩ (.string q.key)).setCell ⟨w.heap.size,8,none⟩ (.int .i64 q.mode)).setCell ⟨w.heap.size,9,none⟩ (.int .i64 q.win)).setCell ⟨w.heap.size,10,none⟩ (.slice q.ia q.m q.icap) = W ∧
 Below w.heap.size w W∧QB W w.heap.size q∧W.heap.size = w.heap.size + 1:=by
 have h0:(w.alloc (.cells zeroQ 29)).heap[w.heap.size]? = some (.cells zeroQ 29 (0,0)):=World.alloc_heap_new w _
 have hs:∀ {W:World} {o:Nat} {v:Value},Below w.heap.size w W→Below w.heap.size w (W.setCell ⟨w.heap.size,o,none⟩ v):=fun {W o v} h=>h.setCell (p:=⟨w.heap.size,o,none⟩) (Nat.le_refl _) v
 refine ⟨_,_,rfl,h0,rfl,hs (hs (hs (hs (hs (hs (hs (hs (hs (hs (hs (nwB w _))))))))))),?_,by simp⟩
 unfold QB
 rw [heap_set (heap_set (heap_set (heap_set (heap_set (heap_set (heap_set (heap_set (heap_set (heap_set (heap_set h0))))))))))]
 simp
theorem zero_cellsQ {w:World} {B:Nat} (h:w.heap[B]? = some (.cells zeroQ 29 (0,0))):(w.cell? ⟨B,0,none⟩ = some (.int .i64 0)∧w.cell? ⟨B,1,none⟩ = some (.string ⟨#[]⟩)∧w.cell? ⟨B,2,none⟩ = some (.string ⟨#[]⟩)∧w.cell? ⟨B,3,none⟩ = some (.int .i64 0)∧w.cell? ⟨B,4,none⟩ = some (.int .i64 0)∧w.cell? ⟨B,5,none⟩ = some (.slice none 0 0)∧w.cell? ⟨B,6,none⟩ = some (.slice none 0 0)∧w.cell? ⟨B,7,none⟩ = some (.string ⟨#[]⟩)∧w.cell? ⟨B,8,none⟩ = some (.int .i64 0)∧w.cell? ⟨B,9,none⟩ = some (.int .i64 0)∧w.cell? ⟨B,10,none⟩ = some (.slice none 0 0)) ∧
 ∀ j,w.frozen? ⟨B,j,none⟩ = false:=by
 refine ⟨⟨?_,?_,?_,?_,?_,?_,?_,?_,?_,?_,?_⟩,fun j=>?_⟩ <;> simp [World.cell?,World.frozen?,h]
def dropC (c:Nat→X) (k i:Nat):X:=if i < k then c i else c (i + 1)
theorem rowX_add (c:Nat→X):∀ (n m:Nat),rowX c (n + m) = rowX c n ++ rowX (fun i=>c (n + i)) m
 | n,0=>by simp [rowX]
 | n,m + 1=>by rw [← Nat.add_assoc,rowX,rowX_add c n m,rowX,List.append_assoc]
theorem rowX_drop (c:Nat→X) (k m:Nat):rowX (dropC c k) (k + m) = rowX c k ++ rowX (fun i=>c (k + 1 + i)) m:=by
 rw [rowX_add,rowX_congr (c:=dropC c k) (d:=c) (fun i hi=>by simp [dropC,hi]),rowX_congr (c:=fun i=>dropC c k (k + i)) (d:=fun i=>c (k + 1 + i)) (fun i hi=>by simp only [dropC];rw [if_neg (by omega),show k + i + 1 = k + 1 + i by omega])]
theorem sumN_drop (f:Nat→Nat) (k m:Nat):sumN (fun i=>if i < k then f i else f (i + 1)) (k + m) + f k = sumN f (k + m + 1):=by
 induction m with
 | zero =>
   simp only [Nat.add_zero,sumN]
   rw [sumN_congr (f:=fun i=>if i < k then f i else f (i + 1)) (g:=f) (fun i hi=>by simp [hi])]
 | succ m ih =>
   rw [show k + (m + 1) = (k + m) + 1 from rfl]
   simp only [sumN] at ih ⊢
   rw [if_neg (by omega)]
   omega
theorem own_set {w:World} {base t n B o:Nat} {v u:Value} {xs:List Value} (h:w.ownsRow base t 7 v n xs) (hB:B < base):(w.setCell ⟨B,o,none⟩ u).ownsRow base t 7 v n xs:=by
 refine ⟨h.1,?_⟩
 rcases h.2 with h | ⟨g,cap,cur,e,hg,hc,rest⟩
 · exact .inl h
 · exact .inr ⟨g,cap,cur,e,hg,(Below.heap_setCell w ⟨B,o,none⟩ u g (Nat.ne_of_gt (Nat.lt_of_lt_of_le hB hg))).trans hc,rest⟩
structure LessW (w5 W:World) (q:Qy) (ns:Nat) (Q:Nat→Sch) (a:Option Addr) (n cap:Nat) (c:Nat→X):Prop where
 qb:QB W w5.heap.size (lessQ q a n cap c q.win)
 bw:Below w5.heap.size w5 W
 isq:∀ V win,Bt w5.heap.size W V→IsQ V (lessQ q a n cap c win)
 ok:∀ win,QOk (lessQ q a n cap c win)
 sm:∀ win,(lessQ q a n cap c win).bulk ≤ 1048576
 wl:∀ win,(win = q.win ∨ (win = 0∧∀ i,¬ HasTail q.p i))→WellR (lessQ q a n cap c win) ns Q 0
theorem lessW_none {w5 W:World} {q:Qy} {ns:Nat} {Q:Nat→Sch} (hw:WellR q ns Q 0) (hQ:IsQ w5 q) (hok:QOk q) (hsm:q.bulk ≤ 1048576) (hqb:QB W w5.heap.size (lessQ q q.a q.n q.cap q.c q.win)) (hB:Below w5.heap.size w5 W):LessW w5 W q ns Q q.a q.n q.cap q.c:=by
 refine ⟨hqb,hB,fun V win hV=>?_,fun win=>?_,fun win=>?_,fun win hwin=>?_⟩
 · have h2:=hQ.later (hB.trans hV.1)
   exact ⟨h2.p,h2.x,fun i hi=>absurd hi (Nat.not_lt_zero _),Nat.le_refl _,Nat.zero_le _⟩
 · exact ⟨hok.p,hok.x,hok.key,fun i hi=>absurd hi (Nat.not_lt_zero _)⟩
 · unfold Qy.bulk at hsm ⊢
   show q.p.size + q.x.size + 0 ≤ _
   omega
 · exact less_well hw q.a q.n q.cap q.c win (Nat.le_refl _) (fun i hi=>⟨i,hi,rfl⟩) (Nat.le_refl _) hwin
theorem lessW_drop {w5 W:World} {q:Qy} {ns:Nat} {Q:Nat→Sch} {a:Option Addr} {cap base k m:Nat} (hw:WellR q ns Q 0) (hQ:IsQ w5 q) (hok:QOk q) (hsm:q.bulk ≤ 1048576) (hn:q.n = k + m + 1) (hbase:w5.heap.size < base) (ho:W.ownsRow base 54 7 (.slice a (k + m) cap) (k + m) (rowX (dropC q.c k) (k + m))) (hqb:QB W w5.heap.size (lessQ q a (k + m) cap (dropC q.c k) q.win)) (hB:Below w5.heap.size w5 W):LessW w5 W q ns Q a (k + m) cap (dropC q.c k):=by
 have hdrop:∀ i,i < k + m→∃ j,j < q.n∧dropC q.c k i = q.c j:=fun i hi=>by
  unfold dropC
  split
  · exact ⟨i,by omega,rfl⟩
  · exact ⟨i + 1,by omega,rfl⟩
 have hsz:(lessQ q a (k + m) cap (dropC q.c k) q.win).x.size ≤ q.x.size:=by
  rw [X.size_eq,X.size_eq q.x]
  show 1 + sumN (fun i=>(dropC q.c k i).size) (k + m) ≤ 1 + sumN (fun i=>(q.c i).size) q.n
  have:=sumN_drop (fun i=>(q.c i).size) k m
  rw [hn]
  rw [sumN_congr (f:=fun i=>(dropC q.c k i).size) (g:=fun i=>if i < k then (q.c i).size else (q.c (i + 1)).size) (fun i _=>by unfold dropC;split <;> rfl)]
  omega
 refine ⟨hqb,hB,fun V win hV=>?_,fun win=>?_,fun win=>?_,fun win hwin=>?_⟩
 · have h2:=hQ.later (hB.trans hV.1)
   refine ⟨h2.p,?_,fun i hi=>absurd hi (Nat.not_lt_zero _),Nat.le_refl _,Nat.zero_le _⟩
   obtain ⟨a',cap',e,h1,h3,h4⟩:=own_nodes ho
   cases e
   rw [isX_eq]
   refine ⟨h1,by unfold maxLen at h3;show cap ≤ _;omega,fun i hi=>?_⟩
   obtain ⟨g,rfl,hg,hlt,_,hnd⟩:=h4 (by have:i < k + m:=hi;omega)
   refine ⟨g,0,rfl,?_,?_⟩
   · rw [Nat.zero_add]
     refine (hnd i hi).of fun j _=>?_
     simp only [World.cell?]
     rw [hV.2 g hlt (by omega)]
   · obtain ⟨j,hj,e⟩:=hdrop i hi
     obtain ⟨_,_,_,_,hx⟩:=h2.x.part (i:=j) hj
     show IsX V (dropC q.c k i)
     rw [e]
     exact hx
 · refine ⟨hok.p,?_,hok.key,fun i hi=>absurd hi (Nat.not_lt_zero _)⟩
   obtain ⟨hx1,hx2,hx3⟩:=(xOk_eq q.x).1 hok.x
   rw [xOk_eq]
   refine ⟨hx1,hx2,fun i hi=>?_⟩
   obtain ⟨j,hj,e⟩:=hdrop i hi
   show XOk (dropC q.c k i)
   rw [e]
   exact hx3 j hj
 · unfold Qy.bulk at hsm ⊢
   have hsz':(lessQ q a (k + m) cap (dropC q.c k) win).x.size ≤ q.x.size:=hsz
   show q.p.size + _ + 0 ≤ _
   omega
 · exact less_well hw a (k + m) cap (dropC q.c k) win (by omega) hdrop hsz hwin
theorem clausesF_any (b:Nat) (bk:Value) (q:Qy) (vv nv mv pv:Value) (W:World) (h:AB W b bk q vv nv mv pv) (hQ:IsQ W q) (hok:QOk q):Says 64 b (chkQ q) W:=by
 obtain ⟨d1,d2,d3,d4,d5,d6⟩:=h.node.at1
 obtain ⟨d7,d8,d9,d10,d11⟩:=h.rest
 have C:=checkQF_any q W hQ hok
 unfold Says
 clear hQ hok h
 go_enter Tryz.func64,Tryz.ntmps64
 go_wp2_with (first
  | (go_at_call 15;refine C.mono ?_;rintro e w1 ⟨rfl,hB1⟩)
  | (go_at_call 113;refine (refused_any _ _).mono ?_;rintro e w2 ⟨rfl,rfl⟩))
 go_ret
 exact ⟨_,rfl,errW_of _,hB1⟩
theorem bulk_chk {q:Qy} (h:chkQ q = 0):q.bulk ≤ 1048576:=bulk_of fun j hj=>lexN_zero.1 h j (by omega)
theorem stageF_any (w:World) (b:Nat) (a:Option Addr) (ns cs:Nat) (Q:Nat→Sch) (q:Qy) (N T:Addr) (hb:w.heap.size ≤ b) (hS:Schs w a ns Q) (hQ:IsQ w q) (hok:QOk q) (hSe:Sens w N T) :
 ∀ (k:Nat) (W:World),k < 8→St w b a ns cs Q q k W→Calls Tryz.prog (fnK k) #[.pointer (some ⟨b,0,none⟩)] W (Stage w b a ns cs Q q k W):=by
 intro k W hk h
 by_cases h1:k = 1
 · subst h1
   have hAB:=h.2.2.1 (by omega)
   exact (clausesF_any b _ q _ _ _ _ W hAB (hQ.later h.2.1) hok).mono fun e w' ⟨v,h1,h2,h3⟩=>⟨_,v,h1,rfl,h2,fun hz=>h.next h3 hz.symm (by omega),.of_below h3 (Nat.le_of_lt hAB.lt)⟩
 · by_cases h0:k = 0
   · subst h0
     have hAB:=h.2.2.1 (by omega)
     exact (schemas_any b _ q _ _ _ _ W hAB a ns cs Q rfl (hS.later h.2.1)).mono fun e w' ⟨v,h1,h2,h3⟩=>⟨_,v,h1,rfl,h2,fun hz=>h.next h3 hz.symm (by omega),.of_below h3 (Nat.le_of_lt hAB.lt)⟩
   · exact stage_any w b a ns cs Q q N T hb hS hQ hok (bulk_chk (show (0:Int) = chkQ q from h.1 1 (by omega)).symm) hSe k W hk h
theorem checkWF_any (a:Option Addr) (ns cs:Nat) (Q:Nat→Sch) (q:Qy) (N T:Addr) (w:World) (hS:Schs w a ns Q) (hQ:IsQ w q) (hok:QOk q) (hSe:Sens w N T) (hE:w.cell? ⟨0,0,none⟩ = some (rty 66)) :
 Calls Tryz.prog 8 #[.slice a ns cs,q.val] w fun e w'=>∃ z,e = .returned (.int .i64 z)∧WellR q ns Q z∧Below w.heap.size w w':=by
 obtain ⟨P0,hP0⟩:∃ P0,w.alloc (.cells q.cells 29) = P0:=⟨_,rfl⟩
 have hqb:QB P0 w.heap.size q:=by rw [← hP0];exact QB.new w q
 have hBP:Below w.heap.size w P0:=by rw [← hP0];exact nwB w _
 have hsP:P0.heap.size = w.heap.size + 1:=by rw [← hP0];simp
 obtain ⟨⟨d0,d1,d2,d3,d4,d5⟩,d6,d7,d8,d9,d10⟩:=hqb.at0
 obtain ⟨A,hA⟩:∃ A,P0.alloc (.cells (askC (.slice a ns cs) q (.slice none 0 0) (.slice none 0 0) (.slice none 0 0) (.pointer none)) 59) = A:=⟨_,rfl⟩
 have hAB:AB A P0.heap.size (.slice a ns cs) q (.slice none 0 0) (.slice none 0 0) (.slice none 0 0) (.pointer none):=by rw [← hA];exact alloc_new P0 _
 have hBA:Below w.heap.size w A:=hBP.trans ((by rw [← hA];exact (Below.refl _ P0).alloc (Nat.le_refl _) _:Below P0.heap.size P0 A).mono (by omega))
 have hsA:A.heap.size = P0.heap.size + 1:=by rw [← hA];simp
 obtain ⟨C,hC⟩:∃ C,A.alloc (.cells #[chkF 0,chkF 1,chkF 2,chkF 3,chkF 4,chkF 5,chkF 6,chkF 7] 62) = C:=⟨_,rfl⟩
 have hBC:Below A.heap.size A C:=by rw [← hC];exact (Below.refl _ A).alloc (Nat.le_refl _) _
 have hCr:C.heap[A.heap.size]? = some (.cells #[chkF 0,chkF 1,chkF 2,chkF 3,chkF 4,chkF 5,chkF 6,chkF 7] 62 (0,0)):=by rw [← hC];exact alloc_new A _
 have hsC:C.heap.size = A.heap.size + 1:=by rw [← hC];simp
 have hSt:St w P0.heap.size a ns cs Q q 0 C:=⟨fun j hj=>absurd hj (Nat.not_lt_zero _),hBA.trans (hBC.mono hBA.size),fun _=>hAB.later hBC,fun h=>absurd h (by decide)⟩
 have HST:Hid (∀ k W,k < 8→St w P0.heap.size a ns cs Q q k W→Calls Tryz.prog (fnK k) #[.pointer (some ⟨P0.heap.size,0,none⟩)] W (Stage w P0.heap.size a ns cs Q q k W)):=stageF_any w P0.heap.size a ns cs Q q N T (by omega) hS hQ hok hSe
 have HE:=hid hE
 have HS0:=hid hSt
 have HCr:=hid hCr
 clear hS hQ hok hSe hE hSt hCr hAB hqb
 go_enter Tryz.func8,Tryz.ntmps8
 go_wp2_with (go_at_call 22;refine (checks_any _).mono ?_;rintro e w1 ⟨rfl,rfl⟩)
 rw [hsP] at HST HS0
 rw [hsA,hsP] at HCr
 clear d0 d1 d2 d3 d4 d5 d6 d7 d8 d9 d10 hP0 hA hC
 go_loopw [15] (fun u wr=>∃ k:Nat,k ≤ 8∧u = .int .i64 k∧Hid (St w (w.heap.size + 1) a ns cs Q q k wr)∧Hid (wr.heap[w.heap.size + 1 + 1]? = some (.cells #[chkF 0,chkF 1,chkF 2,chkF 3,chkF 4,chkF 5,chkF 6,chkF 7] 62 (0,0)))) (fun u _=>8 - (intOf u).toNat)
 case atStart=>exact ⟨0,by omega,rfl,HS0,HCr⟩
 case round =>
  obtain ⟨k,hk,rfl,HSk,HRk⟩:=hrel
  by_cases hk8:k < 8
  · obtain ⟨V,hV⟩:∃ V,wr.alloc (.cells #[.int .i64 0] 63) = V:=⟨_,rfl⟩
    have hBV:Below wr.heap.size wr V:=by rw [← hV];exact (Below.refl _ wr).alloc (Nat.le_refl _) _
    have hbV:Boxed V wr.heap.size 63 (.int .i64 0):=by rw [← hV];exact Boxed.new wr _ _
    have hsV:V.heap.size = wr.heap.size + 1:=by rw [← hV];simp
    have CS:=HST.out k V hk8 (HSk.out.later hBV)
    have ck:wr.cell? ⟨w.heap.size + 1 + 1,k,none⟩ = some (chkF k):=by
     match k,hk8 with
     | 0,_=>simp [World.cell?,HRk.out]
     | 1,_=>simp [World.cell?,HRk.out]
     | 2,_=>simp [World.cell?,HRk.out]
     | 3,_=>simp [World.cell?,HRk.out]
     | 4,_=>simp [World.cell?,HRk.out]
     | 5,_=>simp [World.cell?,HRk.out]
     | 6,_=>simp [World.cell?,HRk.out]
     | 7,_=>simp [World.cell?,HRk.out]
    have hsw:w.heap.size + 2 < wr.heap.size:=(Array.getElem?_eq_some_iff.1 HRk.out).1
    have HBT:Hid (∀ w2,Bt (w.heap.size + 1) V w2→Boxed w2 wr.heap.size 63 (.int .i64 0)∧w2.cell? ⟨0,0,none⟩ = some (rty 66)∧Below w.heap.size w w2∧w2.heap[w.heap.size + 1 + 1]? = wr.heap[w.heap.size + 1 + 1]?):=fun w2 h2=>by
     have hB2:Below w.heap.size w w2:=(HSk.out.2.1.trans (hBV.mono (by omega))).trans (h2.1.mono (by omega))
     exact ⟨h2.boxed hbV (by omega),cell_later HE.out hB2,hB2,(h2.2 _ (by omega) (by omega)).trans (hBV.block _ (by omega))⟩
    have HP:Hid (∀ j,j < k→Az q ns Q j 0):=HSk.out.1
    clear hbV hsV hBV HST HSk
    have hor:k = 0 ∨ k = 1 ∨ k = 2 ∨ k = 3 ∨ k = 4 ∨ k = 5 ∨ k = 6 ∨ k = 7:=by omega
    rcases hor with rfl | rfl | rfl | rfl | rfl | rfl | rfl | rfl
    all_goals simp only [fnK,chkF] at CS ck
    all_goals go_wp2_with (first
     | (go_at_call 23;refine (as_any y wr.heap.size 0 w2 hq1 hq2).mono ?_;rintro e w3 ⟨rfl,hb3,hB3⟩;have cb3:=hb3.cell)
     | (go_at_call 23;refine (as_nil _ _).mono ?_;rintro e w3 ⟨rfl,rfl⟩)
     | ((first | go_at_call 63 | go_at_call 64 | go_at_call 65 | go_at_call 66 | go_at_call 67 | go_at_call 68 | go_at_call 69 | go_at_call 70);refine CS.mono ?_;clear CS;rintro e w2 ⟨z,v,rfl,hz,hv,hnx,hBt⟩;obtain ⟨hq1,hq2,hq3,hq4⟩:=HBT.out w2 hBt;have HNX:=hid hnx;have HZ:=hid hz;clear hnx hz hBt;rcases hv with ⟨rfl,rfl⟩ | ⟨hz0,y,hy,rfl⟩))
    all_goals first
     | (go_ret
        exact ⟨z,rfl,.inr ⟨hz0,_,hk8,HP.out,HZ.out⟩,hq3.trans (hB3.mono (by omega))⟩)
     | (go_roundw
        case rel =>
         refine ⟨_,?_,?_,HNX.out (by first | rfl | trivial),?_⟩
         · omega
         · first | rfl | simp
         · show _ = _
           rw [hq4]
           exact HRk.out
        case measure=>simp [intOf])
  · have hk':k = 8:=by omega
    subst hk'
    go_wp2
    go_ret
    exact ⟨0,rfl,.inl ⟨rfl,HSk.out.1⟩,HSk.out.2.1⟩
theorem wellRightF_walk (a:Option Addr) (ns cs:Nat) (Q:Nat→Sch) (q:Qy) (t:Nat) (N T:Addr) (w:World) (hS:Schs w a ns Q) (hQ:IsQ w q) (hok:QOk q) (ht:t < 256) (hSe:Sens w N T) (hE:w.cell? ⟨0,0,none⟩ = some (rty 66)) :
 Calls Tryz.prog 5 #[.slice a ns cs,q.val,.int .u8 (t:Nat)] w (RV (.bool true) w):=by
 obtain ⟨A,hA⟩:∃ A,w.alloc (.cells q.cells 29) = A:=⟨_,rfl⟩
 have hqb:QB A w.heap.size q:=by rw [← hA];exact QB.new w q
 have hBA:Below w.heap.size w A:=by rw [← hA];exact nwB w _
 have hsA:A.heap.size = w.heap.size + 1:=by rw [← hA];simp
 have hbk:WellR q ns Q 0→q.bulk ≤ 1048576:=fun h=>bulk_chk (show (0:Int) = chkQ q from h.all 1 (by omega)).symm
 have hps:WellR q ns Q 0→q.p.size ≤ 1048576:=fun h=>by have:=hbk h;unfold Qy.bulk at this;omega
 obtain ⟨⟨d0,d1,d2,d3,d4,d5⟩,d6,d7,d8,d9,d10⟩:=hqb.at0
 have C1:=checkWF_any a ns cs Q q N T A (hS.later hBA) (hQ.later hBA) hok (hSe.later hBA) (cell_later hE hBA)
 have CA:Hid (∀ d,Below A.heap.size A d→Calls Tryz.prog 7 #[] d (RV (.bool true) d)):=fun d hd=>awake14_any N T d ((hSe.later hBA).later hd) (cell_later (cell_later hE hBA) hd)
 have CK:Hid (∀ d L,Below A.heap.size A d→IsQ d L→QOk L→L.bulk ≤ 1048576→WellR L ns Q 0→Calls Tryz.prog 8 #[.slice a ns cs,L.val] d (RV (.int .i64 0) d)):=fun d L hd h1 h2 h3 h4=>(checkW_any a ns cs Q L N T d ((hS.later hBA).later hd) h1 h2 h3 ((hSe.later hBA).later hd) (cell_later (cell_later hE hBA) hd)).mono (by rintro e w' ⟨z,rfl,hz,hB⟩;exact ⟨by rw [hz.one h4],hB⟩)
 have C2:Hid (∀ d,Below A.heap.size A d→Calls Tryz.prog 15 #[q.val] d _):=fun d hd=>checkQF_any q d ((hQ.later hBA).later hd) hok
 have C3:Hid (WellR q ns Q 0→∀ d,Below A.heap.size A d→Calls Tryz.prog 16 #[q.p.val] d _):=fun hz d hd=>madeP_any q.p d ((hQ.p.later hBA).later hd) (hps hz) hok.p
 have C4:Hid (WellR q ns Q 0→∀ d,Below A.heap.size A d→Calls Tryz.prog 17 #[q.p.val] d _):=fun hz d hd=>vars12_any q.p d ((hQ.p.later hBA).later hd) (hps hz) hok.p
 have C5:Hid (WellR q ns Q 0→∀ d,Below A.heap.size A d→Calls Tryz.prog 18 #[q.val] d _):=fun hz d hd=>namesQ_any q d ((hQ.later hBA).later hd) hok (hbk hz)
 have HQ:Hid (IsQ A q):=hQ.later hBA
 have HOK:=hid hok
 have HSM0:=hid hbk
 have HPS0:=hid hps
 have HQB:=hid hqb
 have HBA:=hid hBA
 have HSA:=hid hsA
 clear hqb hBA hS hQ hok hSe hE hps hbk hsA
 go_enter Tryz.func5,Tryz.ntmps5
 go_wp2_with (first
  | (go_at_call 8;refine C1.mono ?_;clear C1;rintro e w1 ⟨z,rfl,hz,hB1⟩;obtain ⟨⟨b0,b1,b2,b3,b4,b5⟩,b6,b7,b8,b9,b10⟩:=(HQB.out.later hB1).at0;clear d0 d1 d2 d3 d4 d5 d6 d7 d8 d9 d10;by_cases hz0:z = 0)
  | (go_at_call 7;refine (CA.out w1 hB1).mono ?_;clear CA;rintro e w2 ⟨rfl,hB2⟩)
  | (go_at_call 15;subst hz0;refine (C2.out w1 hB1).mono ?_;clear C2 b0 b1 b2 b3 b4 b5 b6 b7 b8 b9 b10;rintro e w2 ⟨rfl,hB2⟩;have hq0:chkQ q = 0:=(hz.all 1 (by omega)).symm;rw [hq0];have hBA2:=hB1.trans (hB2.mono hB1.size);obtain ⟨⟨e0,e1,e2,e3,e4,e5⟩,-⟩:=(HQB.out.later hBA2).at0)
  | (go_at_call 16;refine (C3.out hz w2 hBA2).mono ?_;clear C3 e0 e1 e2 e3 e4 e5;rintro e w3 ⟨z3,rfl,hz3,hB3⟩;obtain rfl:=made_one hz3 (hz.all 2 (by omega));have hBA3:=hBA2.trans (hB3.mono hBA2.size);obtain ⟨⟨f0,f1,f2,f3,f4,f5⟩,-⟩:=(HQB.out.later hBA3).at0)
  | (go_at_call 17;refine (C4.out hz w3 hBA3).mono ?_;clear C4 f0 f1 f2 f3 f4 f5;rintro e w4 ⟨v1,v2,v3,rfl,hR3,hB4⟩;obtain ⟨a1,c1,rfl⟩:=row_slice hR3.o1;obtain ⟨a2,c2,rfl⟩:=row_slice hR3.o2;obtain ⟨a3,c3,rfl⟩:=row_slice hR3.o3;have hBA4:=hBA3.trans (hB4.mono hBA3.size);obtain ⟨⟨g0,g1,g2,g3,g4,g5⟩,g6,g7,g8,g9,g10⟩:=(HQB.out.later hBA4).at0))
 · have HSM:Hid (q.bulk ≤ 1048576):=HSM0.out hz
   have HPS:Hid (q.p.size ≤ 1048576):=HPS0.out hz
   clear HSM0 HPS0
   refine (C5.out hz w4 hBA4).mono ?_
   clear C5 g0 g1 g2 g3 g4 g5 g6 g7 g8 g9 g10
   rintro e w5 ⟨v5,rfl,ho5,hB5⟩
   obtain ⟨a5,c5,rfl⟩:=row_slice ho5
   have hBA5:=hBA4.trans (hB5.mono hBA4.size)
   obtain ⟨⟨k0,k1,k2,k3,k4,k5⟩,k6,k7,k8,k9,k10⟩:=(HQB.out.later hBA5).at0
   have hl:(namesQ q).length = (vs1 (firstL (usesP q.p)) (firstL (usesP q.p)).length).length:=by rw [names_well hz];simp [vs1,fstL]
   rw [hl]
   clear ho5 hR3 hl hB5 hB4 hB3 hB2
   obtain ⟨A6,W6,hA6,h06,hW6,hB6,hq6,hs6⟩:=boxQ_put q w5
   obtain ⟨⟨z0,z1,z2,z3,z4,z5,z6,z7,z8,z9,z10⟩,zf⟩:=zero_cellsQ h06
   obtain ⟨W7,hW7⟩:∃ W7,W6.setCell ⟨w5.heap.size,10,none⟩ (.slice none 0 0) = W7:=⟨_,rfl⟩
   have hq7:QB W7 w5.heap.size (lessQ q q.a q.n q.cap q.c q.win):=by rw [← hW7];exact heap_set hq6
   have hB7:Below w5.heap.size w5 W7:=by rw [← hW7];exact hB6.setCell (p:=⟨w5.heap.size,10,none⟩) (Nat.le_refl _) _
   have hf6:=hq6.frozen 10
   obtain ⟨-,-,-,-,-,x10⟩:=hq6.at0
   have hBA7:=hBA5.trans (hB7.mono hBA5.size)
   obtain ⟨⟨l0,l1,l2,l3,l4,l5⟩,l6,-⟩:=(HQB.out.later hBA7).at0
   have HQ7:=hid hq7
   have HB7:=hid hB7
   have HBA7:=hid hBA7
   have HBA5:=hid hBA5
   clear hq7 hB7 hq6 hB6 hs6 h06 hBA7 hBA5 hBA4 hBA3 hBA2
   by_cases hn:q.n = 0
   · have tn:¬ (0:Int) < (q.n:Int):=by omega
     have HN:=hid hn
     clear hn
     have LS:Hid (LessW w5 W7 q ns Q q.a q.n q.cap q.c):=lessW_none hz (HQ.out.later HBA5.out) HOK.out HSM.out HQ7.out HB7.out
     have HBAW:Hid (Below A.heap.size A W7):=HBA7.out
     go_wp2_with fail
     by_cases hT:∃ i,HasTail q.p i
     · obtain ⟨i,hi⟩:=hT
       refine (tail_yes q.p i W7 (HQ.out.later HBAW.out).p HPS.out hi).mono ?_
       rintro e w8 ⟨y,rfl,-,-,-,hB8⟩
       obtain ⟨D,V,hD,hDb,hDV,hDB,hDn,hDs⟩:=boxP_put y w8
       obtain ⟨⟨g0,g1,g2,g3,g4,g5⟩,f0,f1,f2,f3,f4,f5⟩:=zero_cells hDb
       have hWV:Below W7.heap.size W7 V:=hB8.trans (hDB.mono hB8.size)
       obtain ⟨⟨u0,u1,u2,u3,u4,u5⟩,u6,u7,u8,u9,u10⟩:=(LS.out.qb.later hWV).at0
       simp only [lessQ] at u0 u1 u2 u3 u4 u5 u6 u7 u8 u9 u10
       have hAV:=HBAW.out.trans (hWV.mono HBAW.out.size)
       have CC:=CK.out V (lessQ q q.a q.n q.cap q.c q.win) hAV (LS.out.isq V q.win (Bt.of_below hWV (Nat.le_of_lt LS.out.qb.lt))) (LS.out.ok _) (LS.out.sm _) (LS.out.wl _ (.inl rfl))
       have HAV:=hid hAV
       clear hAV hWV hDn hDs hDB hDb LS HBAW CK hi
       go_wp2_with (first
        | (go_at_call 8;refine CC.mono ?_;clear CC;rintro e w9 ⟨rfl,hB9⟩;have hA9:=HAV.out.trans (hB9.mono HAV.out.size))
        | (go_at_call 7;refine (CA.out w9 hA9).mono ?_;rintro e w10 ⟨rfl,hB10⟩))
       go_ret
       exact ⟨rfl,HBA.out.trans ((hA9.trans (hB10.mono hA9.size)).mono HBA.out.size)⟩
     · have hno:∀ i,¬ HasTail q.p i:=fun i hi=>hT ⟨i,hi⟩
       refine (tail_no q.p W7 (HQ.out.later HBAW.out).p hno).mono ?_
       rintro e w8 ⟨rfl,hB8⟩
       obtain ⟨D,V,hD,hDb,hDV,hDB,hDn,hDs⟩:=boxP_put .nil w8
       obtain ⟨⟨g0,g1,g2,g3,g4,g5⟩,f0,f1,f2,f3,f4,f5⟩:=zero_cells hDb
       have hDV:(((((D.setCell ⟨w8.heap.size,0,none⟩ (.int .i64 0)).setCell ⟨w8.heap.size,1,none⟩ (.string ⟨#[]⟩)).setCell ⟨w8.heap.size,2,none⟩ (.string ⟨#[]⟩)).setCell ⟨w8.heap.size,3,none⟩ (.int .i64 0)).setCell ⟨w8.heap.size,4,none⟩ (.int .i64 0)).setCell ⟨w8.heap.size,5,none⟩ (.slice none 0 0) = V:=hDV
       have hWV:Below W7.heap.size W7 V:=hB8.trans (hDB.mono hB8.size)
       have hqV:=LS.out.qb.later hWV
       have v9:V.cell? ⟨w5.heap.size,9,none⟩ = some (.int .i64 q.win):=hqV.at0.2.2.2.2.1
       have vf:=hqV.frozen 9
       obtain ⟨Z,hZ⟩:∃ Z,V.setCell ⟨w5.heap.size,9,none⟩ (.int .i64 0) = Z:=⟨_,rfl⟩
       have hqZ:QB Z w5.heap.size (lessQ q q.a q.n q.cap q.c 0):=by rw [← hZ];exact heap_set hqV
       have hBt:Bt w5.heap.size W7 Z:=(Bt.of_below hWV (Nat.le_of_lt LS.out.qb.lt)).trans (by rw [← hZ];exact Bt.set 9 _)
       have h5Z:Below w5.heap.size w5 Z:=LS.out.bw.trans hBt.1
       have hAZ:=HBA5.out.trans (h5Z.mono HBA5.out.size)
       obtain ⟨⟨u0,u1,u2,u3,u4,u5⟩,u6,u7,u8,u9,u10⟩:=hqZ.at0
       simp only [lessQ] at u0 u1 u2 u3 u4 u5 u6 u7 u8 u9 u10
       have CC:=CK.out Z (lessQ q q.a q.n q.cap q.c 0) hAZ (LS.out.isq Z 0 hBt) (LS.out.ok _) (LS.out.sm _) (LS.out.wl _ (.inr ⟨rfl,hno⟩))
       have HAV:=hid hAZ
       clear hAZ hWV hDn hDs hDB hDb LS HBAW CK hno hqV hqZ hBt h5Z hT
       go_wp2_with (first
        | (go_at_call 8;refine CC.mono ?_;clear CC;rintro e w9 ⟨rfl,hB9⟩;have hA9:=HAV.out.trans (hB9.mono HAV.out.size))
        | (go_at_call 7;refine (CA.out w9 hA9).mono ?_;rintro e w10 ⟨rfl,hB10⟩))
       go_ret
       exact ⟨rfl,HBA.out.trans ((hA9.trans (hB10.mono hA9.size)).mono HBA.out.size)⟩
   · obtain ⟨k,hk⟩:∃ k,k = t % q.n:=⟨_,rfl⟩
     have hkn:k < q.n:=by rw [hk];exact Nat.mod_lt _ (by omega)
     obtain ⟨m,hm⟩:∃ m,q.n = k + m + 1:=⟨q.n - k - 1,by omega⟩
     have hn0:¬ ((q.n:Int) = 0):=by omega
     have tn:(0:Int) < (q.n:Int):=by omega
     have HM:=hid hm
     have hrem:Int.tmod (t:Int) (q.n:Int) = (k:Int):=by rw [hk,Int.tmod_eq_emod_of_nonneg (by omega)];simp
     clear hm hn hk
     go_wp2_with fail
     refine wp_region_noPanic ?_
     refine wp_region_held_drew (S:=fun w'=>Below w5.heap.size w5 w') (by kernel_rfl) HB7.out.drew (fun hHeld=>?_)
     have hd7:Below W7.heap.size W7 W7.drew:=(Below.refl _ _).drew
     obtain ⟨d,hd⟩:∃ d,d = W7.drew:=⟨_,rfl⟩
     rw [← hd] at hHeld hd7 ⊢
     clear hd
     obtain ⟨b,o,ea,-,-⟩:=HQ.out.x.part (i:=0) (show 0 < q.n by rw [HM.out];omega)
     have ea:q.a = some ⟨b,o,none⟩:=ea
     have hBAd:=HBA7.out.trans (hd7.mono HBA7.out.size)
     have hnd:∀ i,i < q.n→Node d b (o + i * 7) (q.c i):=fun i hi=>by obtain ⟨b2,o2,e2,h2,-⟩:=(HQ.out.later hBAd).x.part (i:=i) hi;have e3:q.a = some ⟨b2,o2,none⟩:=e2;rw [ea] at e3;cases e3;exact h2
     have hcp:q.n ≤ q.cap∧q.cap ≤ 9223372036854775807:=by have:=(isX_eq A q.x).1 HQ.out.x;exact ⟨this.1,this.2.1⟩
     have hsmn:q.n ≤ 1048576:=by have:=HSM.out;unfold Qy.bulk at this;have h2:=X.n_lt q.x;have h3:q.n = q.x.n:=rfl;omega
     have hown0:(d.alloc (.cells #[] 54)).ownsRow d.heap.size 54 7 (.slice (some ⟨d.heap.size,0,none⟩) 0 0) 0 []:=⟨rfl,.inr ⟨d.heap.size,0,#[],rfl,Nat.le_refl _,alloc_new d _,Nat.le_refl _,Nat.zero_le _,rfl,rfl⟩⟩
     have hBd0:Below d.heap.size d (d.alloc (.cells #[] 54)):=nwB _ _
     obtain ⟨v1,x1,r1,o1,g1⟩:=push_x hown0 (by simp) ⟨b,o,none⟩ k q.cap q.c (fun i hi=>⟨b,o,rfl,(hnd i (by omega)).later hBd0⟩) (by omega)
     simp only [Nat.zero_add,List.nil_append] at o1
     have hBx1:Below d.heap.size d x1:=hBd0.grown g1 (by simp) (by intro k hk;simp [Value.ownBlock] at hk;omega)
     obtain ⟨X,hX⟩:∃ X,X = if q.cap = k + 1 then (⟨b,o,none⟩:Addr) else ⟨b,o + (k + 1) * 7,none⟩:=⟨_,rfl⟩
     obtain ⟨v2,x2,r2,o2,g2⟩:=push_x o1 hBx1.size X m (q.cap - (k + 1)) (fun i=>q.c (k + 1 + i)) (fun i hi=>⟨b,o + (k + 1) * 7,by rw [hX,if_neg (by have:=HM.out;omega)],by have h9:=(hnd (k + 1 + i) (by have:=HM.out;omega)).later hBx1;rw [show o + (k + 1) * 7 + i * 7 = o + (k + 1 + i) * 7 by omega];exact h9⟩) (by have:=HM.out;omega)
     have hBx2:Below d.heap.size d x2:=hBx1.grown g2 hBx1.size (fun q hq=>(o1.lt q hq).1)
     rw [← rowX_drop] at o2
     obtain ⟨a',cap',rfl⟩:=row_slice o2
     have hW72:=hd7.trans (hBx2.mono hd7.size)
     have hq72:=HQ7.out.later hW72
     have HR1:=hid r1
     have HR2:=hid r2
     have HO2:=hid o2
     have HXX:=hid hX
     have HCP:=hid hcp
     have HND:=hid hsmn
     have h5d:=HB7.out.trans (hd7.mono HB7.out.size)
     have h51:=h5d.trans (hBx1.mono h5d.size)
     have h52:=h5d.trans (hBx2.mono h5d.size)
     have h50:Below w5.heap.size w5 (d.alloc (.cells #[] 54)):=h5d.alloc h5d.size _
     clear r1 r2 o1 o2 g1 g2 hX hcp hsmn hnd hown0
     refine tk 1 ?_
     refine tk 2 ?_ (hy:=fun w9 hSw=>by obtain ⟨-,y6,-⟩:=(HQB.out.later (HBA5.out.trans (hSw.mono HBA5.out.size))).at0;rw [ea] at y6;go_simp;(try with_reducible rfl))
     refine tk 3 ?_
     refine tk 4 ?_ (v:=.slice (some ⟨b,o,none⟩) k q.cap) (hy:=fun w9 hSw=>by have hkc:k ≤ q.cap:=(by have h1:=HM.out;have h2:=HCP.out;omega);go_simp)
     refine tk 6 ?_
     refine tk 7 ?_ (hy:=fun w9 hSw=>by obtain ⟨-,y6,-⟩:=(HQB.out.later (HBA5.out.trans (hSw.mono HBA5.out.size))).at0;rw [ea] at y6;go_simp;(try with_reducible rfl))
     refine tk 8 ?_
     refine tk 9 ?_
     refine tk 10 ?_ (v:=.slice (some X) m (q.cap - (k + 1))) (hy:=fun w9 hSw=>by have h1:=HM.out;have h2:=HCP.out;have h3:=HND.out;go_simp;rw [show IntKind.i64.wrap ((k:Int) + 1) = ((k + 1:Nat):Int) by rw [IntKind.wrap_i64];omega,Int.toNat_natCast,if_pos (by omega),HXX.out];rw [show k + m + 1 - (k + 1) = m by omega];split <;> rfl)
     refine rd 0 fun K hK=>?_
     go_simp
     refine hK.out _ _ h50 (fun _=>?_)
     clear hK K
     refine rd 5 fun K hK=>?_
     rw [if_pos (by rfl)]
     refine wpOp_append_at (.tmp 55) (.tmp 59) 26 rfl _ _ _ rfl rfl HR1.out ?_
     refine hK.out _ _ h51 (fun _=>?_)
     clear hK K
     try simp only [Act.put,s_put,s_0,s_1]
     refine rd 11 fun K hK=>?_
     rw [if_pos (by rfl)]
     refine wpOp_append_at (.tmp 60) (.tmp 65) 26 rfl _ _ _ rfl rfl HR2.out ?_
     refine hK.out _ _ h52 (fun hHeld=>?_)
     clear hK K
     try simp only [Act.put,s_put,s_0,s_1]
     refine tk 12 ?_
     have u6:x2.cell? ⟨w5.heap.size,6,none⟩ = some (.slice q.a q.n q.cap):=hq72.at0.2.1
     have uf:=hq72.frozen 6
     obtain ⟨W,hW⟩:∃ W,x2.setCell ⟨w5.heap.size,6,none⟩ (.slice a' (k + m) cap') = W:=⟨_,rfl⟩
     have h5W:Below w5.heap.size w5 W:=by rw [← hW];exact h52.setCell (p:=⟨w5.heap.size,6,none⟩) (Nat.le_refl _) _
     refine rd 13 fun K hK=>?_
     go_simp
     refine hK.out _ _ (h5W) (fun hHeld=>?_)
     clear hK K
     try simp only [Act.put,s_put,s_0,s_1]
     have hqW:QB W w5.heap.size (lessQ q a' (k + m) cap' (dropC q.c k) q.win):=by rw [← hW];exact heap_set hq72
     have LS:Hid (LessW w5 W q ns Q a' (k + m) cap' (dropC q.c k)):=lessW_drop hz (HQ.out.later HBA5.out) HOK.out HSM.out HM.out (Nat.lt_of_lt_of_le HQ7.out.lt hd7.size) (by rw [← hW];exact own_set HO2.out (Nat.lt_of_lt_of_le HQ7.out.lt hd7.size)) hqW h5W
     have HBAW:Hid (Below A.heap.size A W):=HBA5.out.trans (h5W.mono HBA5.out.size)
     obtain ⟨⟨m0,m1,m2,m3,m4,m5⟩,-⟩:=(HQB.out.later HBAW.out).at0
     clear HR1 HR2 HO2 HXX HCP HND u6 uf hW hqW h5W h52 h51 h50 h5d hq72 hW72 hBx2 hBx1 hBd0 hBAd hHeld hd7
     refine dn ?_
     go_wp2_with fail
     by_cases hT:∃ i,HasTail q.p i
     · obtain ⟨i,hi⟩:=hT
       refine (tail_yes q.p i W (HQ.out.later HBAW.out).p HPS.out hi).mono ?_
       rintro e w8 ⟨y,rfl,-,-,-,hB8⟩
       obtain ⟨D,V,hD,hDb,hDV,hDB,hDn,hDs⟩:=boxP_put y w8
       obtain ⟨⟨g0,g1,g2,g3,g4,g5⟩,f0,f1,f2,f3,f4,f5⟩:=zero_cells hDb
       have hWV:Below W.heap.size W V:=hB8.trans (hDB.mono hB8.size)
       obtain ⟨⟨u0,u1,u2,u3,u4,u5⟩,u6,u7,u8,u9,u10⟩:=(LS.out.qb.later hWV).at0
       simp only [lessQ] at u0 u1 u2 u3 u4 u5 u6 u7 u8 u9 u10
       have hAV:=HBAW.out.trans (hWV.mono HBAW.out.size)
       have CC:=CK.out V (lessQ q a' (k + m) cap' (dropC q.c k) q.win) hAV (LS.out.isq V q.win (Bt.of_below hWV (Nat.le_of_lt LS.out.qb.lt))) (LS.out.ok _) (LS.out.sm _) (LS.out.wl _ (.inl rfl))
       have HAV:=hid hAV
       clear hAV hWV hDn hDs hDB hDb LS HBAW CK hi
       go_wp2_with (first
        | (go_at_call 8;refine CC.mono ?_;clear CC;rintro e w9 ⟨rfl,hB9⟩;have hA9:=HAV.out.trans (hB9.mono HAV.out.size))
        | (go_at_call 7;refine (CA.out w9 hA9).mono ?_;rintro e w10 ⟨rfl,hB10⟩))
       go_ret
       exact ⟨rfl,HBA.out.trans ((hA9.trans (hB10.mono hA9.size)).mono HBA.out.size)⟩
     · have hno:∀ i,¬ HasTail q.p i:=fun i hi=>hT ⟨i,hi⟩
       refine (tail_no q.p W (HQ.out.later HBAW.out).p hno).mono ?_
       rintro e w8 ⟨rfl,hB8⟩
       obtain ⟨D,V,hD,hDb,hDV,hDB,hDn,hDs⟩:=boxP_put .nil w8
       obtain ⟨⟨g0,g1,g2,g3,g4,g5⟩,f0,f1,f2,f3,f4,f5⟩:=zero_cells hDb
       have hDV:(((((D.setCell ⟨w8.heap.size,0,none⟩ (.int .i64 0)).setCell ⟨w8.heap.size,1,none⟩ (.string ⟨#[]⟩)).setCell ⟨w8.heap.size,2,none⟩ (.string ⟨#[]⟩)).setCell ⟨w8.heap.size,3,none⟩ (.int .i64 0)).setCell ⟨w8.heap.size,4,none⟩ (.int .i64 0)).setCell ⟨w8.heap.size,5,none⟩ (.slice none 0 0) = V:=hDV
       have hWV:Below W.heap.size W V:=hB8.trans (hDB.mono hB8.size)
       have hqV:=LS.out.qb.later hWV
       have v9:V.cell? ⟨w5.heap.size,9,none⟩ = some (.int .i64 q.win):=hqV.at0.2.2.2.2.1
       have vf:=hqV.frozen 9
       obtain ⟨Z,hZ⟩:∃ Z,V.setCell ⟨w5.heap.size,9,none⟩ (.int .i64 0) = Z:=⟨_,rfl⟩
       have hqZ:QB Z w5.heap.size (lessQ q a' (k + m) cap' (dropC q.c k) 0):=by rw [← hZ];exact heap_set hqV
       have hBt:Bt w5.heap.size W Z:=(Bt.of_below hWV (Nat.le_of_lt LS.out.qb.lt)).trans (by rw [← hZ];exact Bt.set 9 _)
       have h5Z:Below w5.heap.size w5 Z:=LS.out.bw.trans hBt.1
       have hAZ:=HBA5.out.trans (h5Z.mono HBA5.out.size)
       obtain ⟨⟨u0,u1,u2,u3,u4,u5⟩,u6,u7,u8,u9,u10⟩:=hqZ.at0
       simp only [lessQ] at u0 u1 u2 u3 u4 u5 u6 u7 u8 u9 u10
       have CC:=CK.out Z (lessQ q a' (k + m) cap' (dropC q.c k) 0) hAZ (LS.out.isq Z 0 hBt) (LS.out.ok _) (LS.out.sm _) (LS.out.wl _ (.inr ⟨rfl,hno⟩))
       have HAV:=hid hAZ
       clear hAZ hWV hDn hDs hDB hDb LS HBAW CK hno hqV hqZ hBt h5Z hT
       go_wp2_with (first
        | (go_at_call 8;refine CC.mono ?_;clear CC;rintro e w9 ⟨rfl,hB9⟩;have hA9:=HAV.out.trans (hB9.mono HAV.out.size))
        | (go_at_call 7;refine (CA.out w9 hA9).mono ?_;rintro e w10 ⟨rfl,hB10⟩))
       go_ret
       exact ⟨rfl,HBA.out.trans ((hA9.trans (hB10.mono hA9.size)).mono HBA.out.size)⟩
 · go_ret
   exact ⟨rfl,HBA.out.trans ((hB1.trans (hB2.mono hB1.size)).mono HBA.out.size)⟩
open Go.ChangeShapes Go.WideShapes Go.ChangeAt
def laidW : List (String × DataW Unit) := [("errors.errorType", Rows.laid_errors_errorType), ("haruspex/typing.errNone", Rows.laid_haruspex_typing_errNone), ("haruspex/typing.errType", Rows.laid_haruspex_typing_errType)]
theorem laidW_some : (laidW.filter fun x => x.2.handleName?.isSome) = [("errors.errorType", Rows.laid_errors_errorType)] := by kernel_rfl
theorem laidW_none : (laidW.filter fun x => x.2.handleName?.isNone) = [("haruspex/typing.errNone", Rows.laid_haruspex_typing_errNone), ("haruspex/typing.errType", Rows.laid_haruspex_typing_errType)] := by kernel_rfl
theorem gErrW : Tryz.prog.globalNamed "errors.errorType" = some 0 := by kernel_rfl
theorem gNone : Tryz.prog.globalNamed "haruspex/typing.errNone" = some 2 := by kernel_rfl
theorem gType : Tryz.prog.globalNamed "haruspex/typing.errType" = some 1 := by kernel_rfl
theorem tNone:(Tryz.prog.globals[2]?).map (·.type) = some 66:=by kernel_rfl
theorem tType:(Tryz.prog.globals[1]?).map (·.type) = some 66:=by kernel_rfl
theorem cellsES:Tryz.prog.cellsOf 308 = 1:=by kernel_rfl
theorem cellsSt:Tryz.prog.cellsOf 9 = 1:=by kernel_rfl
theorem starES : "*" ++ "errors.errorString" = "*errors.errorString" := by decide
theorem rowES (u : TypeId) (h : Tryz.prog.typeName? 3 u = some "*errors.errorString") : u = 287 :=
 typeName_ptr_named (nm := "errors.errorString") (by rw [starES]; kernel_rfl) (by kernel_rfl) (by decide) u (by rw [starES]; exact h)
theorem cell_of_var {W:World} {name:String} {g:Nat} {v:Value} (hg:Tryz.prog.globalNamed name = some g) (hv:W.var? Tryz.prog name = some #[v]):W.cell? ⟨g,0,none⟩ = some v:=by
 unfold World.var? at hv
 rw [hg] at hv
 simp only [Option.bind_some] at hv
 split at hv
 · rename_i c t f hh
   cases hv
   simp [World.cell?,hh]
 · cases hv
theorem rowErr:((List.range Tryz.prog.types.size).all fun ty=>!Tryz.prog.rowNamed ty [101,114,114,111,114] || ty == 66) = true:=by kernel_rfl
theorem cutRty : (Tryz.prog.cutTypes.find? (·.1 == "internal/reflectlite.rtype")).map (·.2) = some 182 := by kernel_rfl
theorem hdlErr:typeHandle Tryz.prog 66 = hdl 66:=by kernel_rfl
theorem met_of_laid {W:World} (h:laidMetH Tryz.prog laidW W):∃ N T,Sens W N T∧W.cell? ⟨0,0,none⟩ = some (rty 66):=by
 unfold laidMetH at h
 rw [laidW_some,laidW_none] at h
 obtain ⟨hL,hH⟩:=h
 obtain ⟨a0,a1,s0,s1,c0,c1,t0,t1,hv0,hv1,_,_,_,_,_,_,hne,hb0,hb1⟩:=laid_sentinels2 hL gNone tNone gType tType Tryz.underlying66 rowES Tryz.underlying287 Tryz.underlying308 rfl rfl Tryz.underlying9 cellsES cellsSt
 refine ⟨a0,a1,⟨cell_of_var gNone hv0,cell_of_var gType hv1,⟨c0,t0,hb0⟩,⟨c1,t1,hb1⟩,hne⟩,?_⟩
 have hx:=hH _ (List.mem_singleton.2 rfl)
 rw [show (("errors.errorType", Rows.laid_errors_errorType) : String × DataW Unit).2.funcsIn? = none by kernel_rfl] at hx
 obtain ⟨name,u,ty,hn,hu,hty,hrow,hv⟩:=hx
 obtain rfl : [101, 114, 114, 111, 114] = name := Option.some.inj ((show (("errors.errorType", Rows.laid_errors_errorType) : String × DataW Unit).2.handleName? = some [101, 114, 114, 111, 114] by kernel_rfl).symm.trans hn)
 obtain rfl:=Option.some.inj (cutRty.symm.trans hu)
 have ht:=List.all_eq_true.1 rowErr ty (List.mem_range.2 hty)
 rw [hrow] at ht
 obtain rfl:ty = 66:=by simpa using ht
 rw [hdlErr] at hv
 exact cell_of_var gErrW hv
theorem door_met (os:Os) (args:Array Value):laidMetH Tryz.prog laidW ((World.doorLaid Tryz.prog 400 os).forCall (fun _ _=>0) ⟨#[],args,[]⟩).memory :=
 laidMetH_of_parts (by rw [laidW_none];exact laidMet_of_run' 8 (by kernel_rfl) (by kernel_rfl)) (by rw [laidW_some];kernel_rfl)
end Go.Proofs.YtkfpgkohkhhlhaaGreatDoor
