/- Texts that the last one stands on. -/
import Derived.Test.YtkfpgkohkhhlhaaGreatDoorHPatCheck
import Derived.Laws.ResultCell
set_option maxRecDepth 100000
set_option maxHeartbeats 4000000
namespace Go.Proofs.YtkfpgkohkhhlhaaGreatDoor
open Go.RowKit
def rowP (c:Nat→Pt):Nat→List Value
 | 0=>[]
 | n+1=>rowP c n ++ (c n).cells.toList
theorem rowP_len (c:Nat→Pt):∀ n,(rowP c n).length=n * 6
 | 0=>rfl
 | n+1=>by rw [rowP,List.length_append,rowP_len c n];simp;omega
theorem rowP_get (c:Nat→Pt):∀ n i j,i < n→j < 6→(rowP c n)[i * 6+j]? = (c i).cells[j]?
 | 0,_,_,h,_=>by omega
 | n+1,i,j,h,hj=>by
   rw [rowP]
   by_cases e:i=n
   · subst e
     rw [List.getElem?_append_right (by rw [rowP_len];omega),rowP_len,show i * 6+j - i * 6=j by omega]
     simp
   · rw [List.getElem?_append_left (by rw [rowP_len];omega)]
     exact rowP_get c n i j (by omega) hj
theorem rowP_one (c:Nat→Pt):∀ n,∀ u ∈ rowP c n,u.oneCell'=true
 | 0,u,h=>by simp [rowP] at h
 | n+1,u,h=>by
   rw [rowP,List.mem_append] at h
   rcases h with h | h
   · exact rowP_one c n u h
   · simp at h
     rcases h with rfl | rfl | rfl | rfl | rfl | rfl <;> rfl
theorem nodesP_cells {w:World} {b o n:Nat} {c:Nat→Pt} (h:∀ i,i < n→NodeP w b (o+i * 6) (c i)):∀ j u,(rowP c n)[j]? = some u→w.cell? ((Addr.mk b o none).add j)=some u:=by
 intro j u hu
 have hj:j < n * 6:=by have:=(List.getElem?_eq_some_iff.1 hu).1;rwa [rowP_len] at this
 have hi:j / 6 < n:=by omega
 have hm:j % 6 < 6:=Nat.mod_lt _ (by omega)
 have he:j / 6 * 6+j % 6=j:=by omega
 have:=rowP_get c n (j / 6) (j % 6) hi hm
 rw [he,hu] at this
 rw [add_none]
 obtain ⟨d0,d1,d2,d3,d4,d5⟩:=h (j / 6) hi
 obtain ⟨m,hm'⟩:∃ m,m=j % 6:=⟨_,rfl⟩
 rw [← hm'] at this hm he
 rw [show o+j=o+j / 6 * 6+m by omega]
 match m,hm with
 | 0,_=>simp at this;rw [this];exact d0
 | 1,_=>simp at this;rw [this];exact d1
 | 2,_=>simp at this;rw [this];exact d2
 | 3,_=>simp at this;rw [this];exact d3
 | 4,_=>simp at this;rw [this];exact d4
 | 5,_=>simp at this;rw [this];exact d5
def FreeP (w:World) (b:Nat):Prop:=∃ cur,w.heap[b]? = some (.cells cur 25 (0,0))
theorem FreeP.frozen {w:World} {b:Nat} (h:FreeP w b) (o:Nat):w.frozen? ⟨b,o,none⟩=false:=by
 obtain ⟨cur,h⟩:=h
 simp [World.frozen?,h]
theorem ownP_nodes {w:World} {base n:Nat} {v:Value} {c:Nat→Pt} (h:w.ownsRow base 25 6 v n (rowP c n)) :
 ∃ a cap,v=.slice a n cap∧n≤cap∧cap≤maxLen∧(0 < n→∃ g,a=some ⟨g,0,none⟩∧base≤g∧g < w.heap.size∧FreeP w g∧∀ i,i < n→NodeP w g (i * 6) (c i)):=by
 rcases h.2 with ⟨rfl,rfl⟩ | ⟨g,cap,cur,rfl,hg,hc,hnc,hcm,hs,ht⟩
 · exact ⟨none,0,rfl,Nat.le_refl _,Nat.zero_le _,fun h=>by omega⟩
 · refine ⟨_,cap,rfl,hnc,hcm,fun h0=>⟨g,rfl,hg,(Array.getElem?_eq_some_iff.1 hc).1,⟨cur,hc⟩,fun i hi=>?_⟩⟩
   have key:∀ j,j < 6→w.cell? ⟨g,i * 6+j,none⟩=(c i).cells[j]?:=by
    intro j hj
    rw [← rowP_get c n i j hi hj,← ht,List.getElem?_take_of_lt (by omega)]
    simp only [World.cell?,hc]
    rw [Array.getElem?_toList]
    rfl
   exact ⟨key 0 (by omega),key 1 (by omega),key 2 (by omega),key 3 (by omega),key 4 (by omega),key 5 (by omega)⟩
theorem infoP:(Tryz.prog.info? 25).map (fun i=>(i.zero,i.size,i.bytes))=some (some (.agg #[.int .i64 0,.string ⟨#[]⟩,.string ⟨#[]⟩,.int .i64 0,.int .i64 0,.slice none 0 0]),6,80):=by kernel_rfl
theorem push_p {w:World} {base n:Nat} {v:Value} {xs:List Value} (h:w.ownsRow base 25 6 v n xs) (hb:base≤w.heap.size) (p:Addr) (m k:Nat) (c:Nat→Pt) (hm:∀ i,i < m→∃ b o,p=⟨b,o,none⟩∧NodeP w b (o+i * 6) (c i)) (hn:n+m≤16777216) :
 ∃ v' w',(Builtin.append_ #[23,23] 23 #[v,.slice (some p) m k]).run Tryz.prog w=.ok v' w'∧w'.ownsRow base 25 6 v' (n+m) (xs ++ rowP c m)∧w.grownBy w' v.ownBlock:=by
 obtain ⟨i0,hi,hz0,hz1,hz2⟩:=info_parts infoP
 obtain ⟨v',w',hrun,hown',hgrow,_⟩:=run_append_own (P:=Tryz.prog) (w:=w) base 23 23 25 i0 _ 6 80 Tryz.underlying23 hi hz0 hz1 hz2 rfl (by decide) v n xs h p m k (rowP c m) (rowP_len c m)
  (fun j u hu=>by
    have h0:0 < m:=by
     have:=(List.getElem?_eq_some_iff.1 hu).1
     rw [rowP_len] at this
     omega
    obtain ⟨b,o,rfl,_⟩:=hm 0 h0
    refine nodesP_cells (fun i hi=>?_) j u hu
    obtain ⟨b',o',e,hn'⟩:=hm i hi
    cases e
    exact hn') (rowP_one c m) (by unfold maxLen;omega) (by omega) hb
 exact ⟨v',w',hrun,hown',hgrow⟩
theorem cloneP_any (a:Option Addr) (n cap:Nat) (c:Nat→Pt) (w:World) (h:∀ i,i < n→∃ b o,a=some ⟨b,o,none⟩∧NodeP w b (o+i * 6) (c i)) (hn:n≤1048576) :
 Calls Tryz.prog 110 #[.slice a n cap] w fun e w'=>∃ v,e=.returned v∧w'.ownsRow w.heap.size 25 6 v n (rowP c n)∧Below w.heap.size w w':=by
 cases a with
 | none =>
   obtain rfl:n=0:=by
    by_cases h0:0 < n
    · obtain ⟨_,_,e,_⟩:=h 0 h0
      cases e
    · omega
   clear h
   have he:∀ w:World,(binOp .eql 23 (.slice none 0 cap) (.slice none 0 0)).run Tryz.prog w=.ok (.bool true) w:=fun _=>rfl
   go_enter Tryz.func110,Tryz.ntmps110
   go_wp2
   go_ret
   exact ⟨_,rfl,World.ownsRow_nil _ _ _ _,Below.refl _ _⟩
 | some x =>
   have hB0:Below w.heap.size w (w.alloc (.cells #[] 25)):=nwB _ _
   have hown0:(w.alloc (.cells #[] 25)).ownsRow w.heap.size 25 6 (.slice (some ⟨w.heap.size,0,none⟩) 0 0) 0 [] :=
    ⟨rfl,.inr ⟨w.heap.size,0,#[],rfl,Nat.le_refl _,alloc_new w _,Nat.le_refl _,Nat.zero_le _,rfl,rfl⟩⟩
   obtain ⟨v1,w1,hrun1,hown1,hg1⟩:=push_p hown0 (by simp) x n cap c (fun i hi=>by
    obtain ⟨b',o',e,hn'⟩:=h i hi
    cases e
    exact ⟨b',o',rfl,hn'.later hB0⟩) (by omega)
   simp only [Nat.zero_add,List.nil_append] at hown1
   have hB1:Below w.heap.size w w1:=hB0.grown hg1 (by simp) (by intro k hk;simp [Value.ownBlock] at hk;omega)
   have HR1:=hid hrun1
   clear h hown0 hB0 hg1 hrun1
   have he:∀ w:World,(binOp .eql 23 (.slice (some x) n cap) (.slice none 0 0)).run Tryz.prog w=.ok (.bool false) w:=fun _=>rfl
   go_enter Tryz.func110,Tryz.ntmps110
   go_wp2_with (first | (at_builtin;refine wpList_append_run rfl (.tmp 5) (.tmp 6) 23 rfl _ _ _ rfl rfl HR1.out ?_))
   go_ret
   exact ⟨_,rfl,hown1,hB1⟩
def inP (k:Nat):Pt→Prop
 | .nil=>False
 | .mk _ _ _ _ _ a n _ c=>(0 < n∧∃ o,a=some ⟨k,o,none⟩) ∨ ∃ i,i < n∧inP k (c i)
theorem inP_eq (k:Nat) (x:Pt):inP k x ↔ (0 < x.n∧∃ o,x.a=some ⟨k,o,none⟩) ∨ ∃ i,i < x.n∧inP k (x.c i):=by
 cases x with
 | nil=>simp [inP,Pt.n]
 | mk=>rfl
def PA (w:World):Pt→Prop
 | .nil=>True
 | .mk _ _ _ _ _ a n cap c=>n≤cap∧cap≤9223372036854775807∧∀ i,i < n→∃ b,a=some ⟨b,0,none⟩∧FreeP w b∧NodeP w b (i * 6) (c i)∧PA w (c i)∧¬ inP b (c i)∧∀ j,j < n→j ≠ i→∀ k,inP k (c i)→¬ inP k (c j)
theorem pA_eq (w:World) (x:Pt):PA w x ↔ x.n≤x.cap∧x.cap≤9223372036854775807∧∀ i,i < x.n→∃ b,x.a=some ⟨b,0,none⟩∧FreeP w b∧NodeP w b (i * 6) (x.c i)∧PA w (x.c i)∧¬ inP b (x.c i)∧∀ j,j < x.n→j ≠ i→∀ k,inP k (x.c i)→¬ inP k (x.c j):=by
 cases x with
 | nil=>simp [PA,Pt.n,Pt.cap]
 | mk=>rfl
theorem PA.is {w:World}:∀ {x:Pt},PA w x→IsP w x:=by
 refine @(Pt.ind fun x ih hx=>?_)
 rw [pA_eq] at hx
 rw [isP_eq]
 refine ⟨hx.1,hx.2.1,fun i hi=>?_⟩
 obtain ⟨b,e,_,hn,hc,_⟩:=hx.2.2 i hi
 exact ⟨b,0,e,by simpa using hn,ih i hi hc⟩
theorem FreeP.kept {T:Nat→Prop} {W W':World} (h:Kp T W W') {b:Nat} (hb:T b) (hf:FreeP W b):FreeP W' b:=by
 obtain ⟨cur,hc⟩:=hf
 exact ⟨cur,h b _ hb rfl hc⟩
theorem FreeP.lt {w:World} {b:Nat} (h:FreeP w b):b < w.heap.size:=by
 obtain ⟨cur,hc⟩:=h
 exact (Array.getElem?_eq_some_iff.1 hc).1
theorem FreeP.ne {w:World} {b k:Nat} {t:TypeId} {u:Value} (h:FreeP w b) (hb:Boxed w k t u) (ht:t ≠ 25):b ≠ k:=by
 rintro rfl
 obtain ⟨cur,hc⟩:=h
 have hb':w.heap[b]? = some (.cells #[u] t (0,0)):=hb
 rw [hc] at hb'
 injection hb' with e
 injection e with _ e2
 exact ht e2.symm
theorem PA.kept {T:Nat→Prop} {W W':World} (h:Kp T W W'):∀ {x:Pt},(∀ k,inP k x→T k)→PA W x→PA W' x:=by
 refine @(Pt.ind fun x ih hT hx=>?_)
 rw [pA_eq] at hx ⊢
 refine ⟨hx.1,hx.2.1,fun i hi=>?_⟩
 obtain ⟨b,e,hf,hn,hc,hr⟩:=hx.2.2 i hi
 have hb:T b:=hT b ((inP_eq _ _).2 (.inl ⟨by omega,0,e⟩))
 exact ⟨b,e,hf.kept h hb,hn.kept h hb,ih i hi (fun k hk=>hT k ((inP_eq _ _).2 (.inr ⟨i,hi,hk⟩))) hc,hr⟩
theorem inP_lt {w:World} {k:Nat}:∀ {x:Pt},PA w x→inP k x→k < w.heap.size:=by
 refine @(Pt.ind fun x ih hx hk=>?_)
 rw [pA_eq] at hx
 rcases (inP_eq _ _).1 hk with ⟨h0,o,e⟩ | ⟨i,hi,hk⟩
 · obtain ⟨b,e',hf,_⟩:=hx.2.2 0 h0
   rw [e] at e'
   cases e'
   exact hf.lt
 · obtain ⟨b,e',_,_,hc,_⟩:=hx.2.2 i hi
   exact ih i hi hc hk
theorem PA.later {w w':World} {x:Pt} (hB:Below w.heap.size w w') (h:PA w x):PA w' x :=
 h.kept (T:=fun k=>k < w.heap.size) (Kp.of_below hB fun _ hk=>hk) fun _ hk=>inP_lt h hk
theorem PA.ag {B:Nat} {W A:World} (h:Ag B W A) {x:Pt} (hx:PA W x):PA A x:=hx.kept (T:=fun _=>True) (fun k o _ ho e=>(h.cells k o ho).2 e) fun _ _=>trivial
theorem FreeP.ag {B:Nat} {W A:World} (h:Ag B W A) {b:Nat} (hf:FreeP W b):FreeP A b:=by
 obtain ⟨cur,hc⟩:=hf
 exact ⟨cur,(h.cells _ _ rfl).2 hc⟩
theorem FreeP.set {W:World} {k b o:Nat} {v:Value} (hf:FreeP W k):FreeP (W.setCell ⟨b,o,none⟩ v) k:=by
 obtain ⟨cur,hc⟩:=hf
 by_cases e:k=b
 · subst e
   refine ⟨cur.setIfInBounds o v,?_⟩
   simp only [World.setCell,Array.getElem?_modify,if_pos,hc]
   rfl
 · exact ⟨cur,(Below.heap_setCell W ⟨b,o,none⟩ v k e).trans hc⟩
structure KbP (b j0:Nat) (S:Nat→Prop) (W W':World):Prop where
 oth:Kp (fun k=>k ≠ b∧¬ S k) W W'
 own:∀ j u,j ≠ j0→W.cell? ⟨b,j,none⟩=some u→W'.cell? ⟨b,j,none⟩=some u
 free:∀ k,FreeP W k→FreeP W' k
 size:W.heap.size≤W'.heap.size
theorem KbP.node {b j0:Nat} {S:Nat→Prop} {W W':World} (h:KbP b j0 S W W') {k o:Nat} {x:Pt} (hk:k ≠ b) (hS:¬ S k) (hn:NodeP W k o x):NodeP W' k o x:=hn.kept h.oth ⟨hk,hS⟩
theorem KbP.near {b j0:Nat} {S:Nat→Prop} {W W':World} (h:KbP b j0 S W W') {o:Nat} {x:Pt} (ho:∀ t,t < 6→o+t ≠ j0) (hn:NodeP W b o x):NodeP W' b o x :=
 ⟨h.own _ _ (ho 0 (by omega)) hn.1,h.own _ _ (ho 1 (by omega)) hn.2.1,h.own _ _ (ho 2 (by omega)) hn.2.2.1,h.own _ _ (ho 3 (by omega)) hn.2.2.2.1,h.own _ _ (ho 4 (by omega)) hn.2.2.2.2.1,h.own _ _ (ho 5 (by omega)) hn.2.2.2.2.2⟩
theorem KbP.set (b j0:Nat) (S:Nat→Prop) (W:World) (v:Value):KbP b j0 S W (W.setCell ⟨b,j0,none⟩ v) :=
 ⟨fun k _ hk _ e=>(Below.heap_setCell W ⟨b,j0,none⟩ v k hk.1).trans e,fun j u hj hc=>(World.cell?_setCell_other _ _ _ _ (by intro e;cases e;exact hj rfl)).trans hc,fun _ hf=>hf.set,Nat.le_of_eq (World.size_setCell ..).symm⟩
theorem KbP.of_below (b j0:Nat) (S:Nat→Prop) {W W':World} (h:Below W.heap.size W W'):KbP b j0 S W W' :=
 ⟨fun k o _ _ e=>(h.block k (Array.getElem?_eq_some_iff.1 e).1).trans e,
  fun j u _ hc=>by
   obtain ⟨o,ho,_⟩:=cells_of_cell hc
   exact (h.cell (p:=⟨b,j,none⟩) (Array.getElem?_eq_some_iff.1 ho).1).trans hc,
  fun k hf=>by
   have hl:=hf.lt
   obtain ⟨cur,hc⟩:=hf
   exact ⟨cur,(h.block k hl).trans hc⟩,h.size⟩
theorem KbP.refl (b j0:Nat) (S:Nat→Prop) (W:World):KbP b j0 S W W:=.of_below b j0 S (Below.refl _ _)
theorem KbP.trans {b j0:Nat} {S:Nat→Prop} {A B C:World} (h:KbP b j0 S A B) (g:KbP b j0 S B C):KbP b j0 S A C :=
 ⟨h.oth.trans g.oth,fun j u hj hc=>g.own j u hj (h.own j u hj hc),fun k hf=>g.free k (h.free k hf),Nat.le_trans h.size g.size⟩
theorem KbP.mono {b j0:Nat} {S S':Nat→Prop} {W W':World} (h:KbP b j0 S W W') (hS:∀ k,S k→S' k):KbP b j0 S' W W':=⟨h.oth.mono fun k hk=>⟨hk.1,fun hs=>hk.2 (hS k hs)⟩,h.own,h.free,h.size⟩
theorem KbP.ag {B b j0:Nat} {S:Nat→Prop} {W A A' W':World} (h:Ag B W A) (h':Ag B A' W') (g:KbP b j0 S A A'):KbP b j0 S W W' :=
 ⟨Kp.ag h h' g.oth,fun j u hj hc=>(h'.cell _).trans (g.own j u hj ((h.cell _).trans hc)),fun k hf=>(g.free k (hf.ag h)).ag h',by rw [h'.size,← h.size];exact g.size⟩
theorem KbP.part {b j0 g j1:Nat} {S S':Nat→Prop} {W Wi W':World} (h:KbP b j0 S W Wi) (f:KbP g j1 S' Wi W') (hg:S g ∨ W.heap.size≤g) (hS:∀ k,S' k→S k ∨ W.heap.size≤k) (_:b < W.heap.size) (hb1:b ≠ g) (hb2:¬ S' b):KbP b j0 S W W':=by
 refine ⟨fun k o hk ho e=>?_,fun j u hj hc=>?_,fun k hf=>f.free k (h.free k hf),Nat.le_trans h.size f.size⟩
 · have hl:k < W.heap.size:=(Array.getElem?_eq_some_iff.1 e).1
   refine f.oth k o ⟨?_,?_⟩ ho (h.oth k o hk ho e)
   · rintro rfl
     rcases hg with hg | hg
     · exact hk.2 hg
     · omega
   · intro hs
     rcases hS k hs with h1 | h1
     · exact hk.2 h1
     · omega
 · exact f.oth.cell (p:=⟨b,j,none⟩) ⟨hb1,hb2⟩ (h.own j u hj hc)
abbrev Pt.at (v:Pt) (a:Option Addr) (cap:Nat) (c:Nat→Pt):Pt:=.mk v.k v.s v.t v.lo v.hi a v.n cap c
theorem NodeP.at {w:World} {b o:Nat} {v:Pt} {a:Option Addr} {cap:Nat} {c c':Nat→Pt} (h:NodeP w b o (v.at a cap c)):NodeP w b o (v.at a cap c'):=h
open Go.Shelf
attribute [local go_sem] Oper.semAt_some
def CopP (N0:Nat) (v:Pt) (b o:Nat) (W W':World):Prop :=
 ∃ a cap,NodeP W' b o (v.at a cap v.c)∧v.n≤cap∧cap≤maxLen∧(0 < v.n→∃ g,a=some ⟨g,0,none⟩∧W.heap.size≤g∧g < W'.heap.size∧FreeP W' g∧∀ i,i < v.n→NodeP W' g (i * 6) (v.c i))∧Below N0 W W'∧KbP b (o+5) (fun _=>False) W W'
def CopPPre (N0:Nat) (v:Pt) (b o:Nat) (W:World):Prop:=NodeP W b o v∧PIn N0 W v∧N0≤b∧FreeP W b∧v.size≤1048576∧N0≤W.heap.size
def CopPMid (N0:Nat) (v:Pt) (b o:Nat) (W:World) (a:Option Addr) (cap i:Nat) (Wi:World):Prop :=
 ∃ c:Nat→Pt,NodeP Wi b o (v.at a cap v.c)∧v.n≤cap∧cap≤maxLen∧i≤v.n ∧
   (0 < v.n→∃ g,a=some ⟨g,0,none⟩∧W.heap.size≤g∧g < Wi.heap.size∧FreeP Wi g∧(∀ j,j < i→NodeP Wi g (j * 6) (c j)∧¬ inP g (c j))∧(∀ j,i≤j→j < v.n→NodeP Wi g (j * 6) (v.c j))) ∧
   (∀ j,j < i→PA Wi (c j)∧Sm (c j) (v.c j)∧(∀ k,inP k (c j)→W.heap.size≤k∧k < Wi.heap.size)∧∀ j',j' < i→j' ≠ j→∀ k,inP k (c j)→¬ inP k (c j')) ∧
   Below N0 W Wi∧KbP b (o+5) (fun _=>False) W Wi∧PIn N0 Wi v∧N0≤b∧b < W.heap.size∧v.size≤1048576∧N0≤W.heap.size
def CopPPost (N0:Nat) (v:Pt) (b o:Nat) (W W':World):Prop :=
 ∃ y,NodeP W' b o y∧PA W' y∧Sm y v∧(∀ k,inP k y→W.heap.size≤k∧k < W'.heap.size)∧Below N0 W W'∧KbP b (o+5) (fun _=>False) W W'
theorem CopPPre.ag {N0 B:Nat} {v:Pt} {b o:Nat} {W A:World} (h:Ag B W A) (hN:N0≤B) (hp:CopPPre N0 v b o W):CopPPre N0 v b o A:=by
 obtain ⟨h1,h2,h3,h4,h5,h6⟩:=hp
 exact ⟨h1.ag h,h2.below (h.below hN (Below.refl _ _)),h3,h4.ag h,h5,by rw [h.size];exact h6⟩
theorem CopP.ag {N0 B:Nat} {v:Pt} {b o:Nat} {W A A' W':World} (h:Ag B W A) (h':Ag B A' W') (hN:N0≤B) (hp:CopP N0 v b o A A'):CopP N0 v b o W W':=by
 obtain ⟨a,cap,h1,h2,h3,h4,h5,h6⟩:=hp
 refine ⟨a,cap,h1.ag h',h2,h3,fun h0=>?_,h.below_from hN (h'.below hN h5),KbP.ag h h' h6⟩
 obtain ⟨g,e,q1,q2,q3,q4⟩:=h4 h0
 exact ⟨g,e,by rw [← h.size];exact q1,by rw [h'.size];exact q2,q3.ag h',fun i hi=>(q4 i hi).ag h'⟩
theorem CopPPost.ag {N0 B:Nat} {v:Pt} {b o:Nat} {W W' A:World} (h:Ag B W' A) (hN:N0≤B) (hp:CopPPost N0 v b o W W'):CopPPost N0 v b o W A:=by
 obtain ⟨y,h1,h2,h3,h4,h5,h6⟩:=hp
 exact ⟨y,h1.ag h,h2.ag h,h3,fun k hk=>by rw [h.size];exact h4 k hk,h.below hN h5,KbP.ag (Ag.refl B W) h h6⟩
theorem CopP.mid {N0:Nat} {v:Pt} {b o:Nat} {W W':World} (hp:CopPPre N0 v b o W) (h:CopP N0 v b o W W'):∃ a cap,CopPMid N0 v b o W a cap 0 W':=by
 obtain ⟨p1,p2,p3,p4,p5,p6⟩:=hp
 obtain ⟨a,cap,h1,h2,h3,h4,h5,h6⟩:=h
 refine ⟨a,cap,v.c,h1,h2,h3,Nat.zero_le _,fun h0=>?_,fun j hj=>absurd hj (Nat.not_lt_zero _),h5,h6,p2.below h5,p3,p4.lt,p5,p6⟩
 obtain ⟨g,e,q1,q2,q3,q4⟩:=h4 h0
 exact ⟨g,e,q1,q2,q3,fun j hj=>absurd hj (Nat.not_lt_zero _),fun j _ hj=>q4 j hj⟩
theorem CopPMid.next {N0:Nat} {v:Pt} {b o:Nat} {W:World} {a:Option Addr} {cap i:Nat} {Wi:World} (h:CopPMid N0 v b o W a cap i Wi) (hi:i < v.n) :
 ∃ b' o',a=some ⟨b',o',none⟩∧CopPPre N0 (v.c i) b' (o'+i * 6) Wi.drew∧(∀ W',CopPPost N0 (v.c i) b' (o'+i * 6) Wi.drew W'→CopPMid N0 v b o W a cap (i+1) W'):=by
 obtain ⟨c,h1,h2,h3,h4,h5,h6,h7,h8,h9,h10,h11,h12,h13⟩:=h
 obtain ⟨g,e,q1,q2,q3,q4,q5⟩:=h5 (by omega)
 have hsz:=v.size_part i hi
 obtain ⟨b2,o2,_,_,hn2,hx2⟩:=((pIn_eq _ _ _).1 h9).2.2 i hi
 refine ⟨g,0,e,⟨by rw [Nat.zero_add];exact q5 i (Nat.le_refl _) hi,hx2.below (Below.refl _ _).drew,by omega,q3,by omega,by have:=h7.size;show N0≤Wi.heap.size;omega⟩,?_⟩
 rintro W' ⟨y,p1,p2,p3,p4,p5,p6⟩
 rw [Nat.zero_add] at p1 p6
 have p4':∀ k,inP k y→Wi.heap.size≤k∧k < W'.heap.size:=p4
 have p5':Below N0 Wi W':=⟨p5.os,p5.tape,p5.output,p5.size,p5.block⟩
 have p6':KbP g (i * 6+5) (fun _=>False) Wi W':=⟨p6.oth,p6.own,p6.free,p6.size⟩
 clear p4 p5 p6
 have hWW:=h8.size
 have hbg:b ≠ g:=by omega
 obtain ⟨c',hc'⟩:∃ c':Nat→Pt,c'=fun j=>if j=i then y else c j:=⟨_,rfl⟩
 have ci:c' i=y:=by rw [hc'];simp
 have cj:∀ j,j < i→c' j=c j:=fun j hj=>by rw [hc'];simp only;rw [if_neg (by omega)]
 refine ⟨c',p6'.node hbg (fun h=>h) h1,h2,h3,hi,fun _=>⟨g,e,q1,Nat.lt_of_lt_of_le q2 p6'.size,p6'.free g q3,fun j hj=>?_,fun j hj1 hj2=>?_⟩,fun j hj=>?_,h7.trans p5',h8.part p6' (.inr q1) (fun _ h=>h.elim) h11 hbg (fun h=>h),h9.below p5',h10,h11,h12,h13⟩
 · by_cases ej:j=i
   · subst ej
     rw [ci]
     exact ⟨p1,fun hg=>by have:=p4' g hg;omega⟩
   · rw [cj j (by omega)]
     obtain ⟨r1,r2⟩:=q4 j (by omega)
     exact ⟨p6'.near (fun t ht=>by omega) r1,r2⟩
 · exact p6'.near (fun t ht=>by omega) (q5 j (by omega) hj2)
 · by_cases ej:j=i
   · subst ej
     rw [ci]
     refine ⟨p2,p3,fun k hk=>by have:=p4' k hk;omega,fun j' hj' hne k hk=>?_⟩
     rw [cj j' (by omega)]
     intro hk'
     have:=(h6 j' (by omega)).2.2.1 k hk'
     have:=p4' k hk
     omega
   · rw [cj j (by omega)]
     obtain ⟨r1,r2,r3,r4⟩:=h6 j (by omega)
     refine ⟨r1.kept p6'.oth fun k hk=>⟨fun ek=>?_,fun h=>h⟩,r2,fun k hk=>by have:=r3 k hk;have:=p6'.size;omega,fun j' hj' hne k hk=>?_⟩
     · subst ek
       exact (q4 j (by omega)).2 hk
     · by_cases ej':j'=i
       · subst ej'
         rw [ci]
         intro hk'
         have:=r3 k hk
         have:=p4' k hk'
         omega
       · rw [cj j' (by omega)]
         exact r4 j' (by omega) hne k hk
theorem CopPMid.done {N0:Nat} {v:Pt} {b o:Nat} {W:World} {a:Option Addr} {cap:Nat} {Wi:World} (h:CopPMid N0 v b o W a cap v.n Wi):CopPPost N0 v b o W Wi:=by
 obtain ⟨c,h1,h2,h3,h4,h5,h6,h7,h8,h9,h10,h11,h12,h13⟩:=h
 refine ⟨v.at a cap c,h1,?_,?_,fun k hk=>?_,h7,h8⟩
 · refine ⟨h2,by unfold maxLen at h3;omega,fun i hi=>?_⟩
   obtain ⟨g,e,q1,q2,q3,q4,q5⟩:=h5 (by omega)
   obtain ⟨r1,r2,r3,r4⟩:=h6 i hi
   exact ⟨g,e,q3,(q4 i hi).1,r1,(q4 i hi).2,r4⟩
 · exact (sm_iff _ _).2 ⟨rfl,rfl,rfl,rfl,rfl,rfl,fun i hi=>(h6 i hi).2.1⟩
 · rcases hk with ⟨h0,o',e'⟩ | ⟨i,hi,hk⟩
   · obtain ⟨g,e,q1,q2,_⟩:=h5 h0
     rw [e] at e'
     cases e'
     exact ⟨q1,q2⟩
   · exact (h6 i hi).2.2.1 k hk
abbrev set6 (W:World) (b:Nat) (y:Pt):World :=
 (((((W.setCell ⟨b,0,none⟩ (.int .i64 y.k)).setCell ⟨b,1,none⟩ (.string y.s)).setCell ⟨b,2,none⟩ (.string y.t)).setCell ⟨b,3,none⟩ (.int .i64 y.lo)).setCell ⟨b,4,none⟩ (.int .i64 y.hi)).setCell ⟨b,5,none⟩ (.slice y.a y.n y.cap)
theorem heap_set6 {W:World} {b:Nat} {y z:Pt} {t:TypeId} (h:W.heap[b]? = some (.cells z.cells t (0,0))):(set6 W b y).heap[b]? = some (.cells y.cells t (0,0)):=by
 rw [heap_set (heap_set (heap_set (heap_set (heap_set (heap_set h)))))]
 simp
theorem heap_set6_other {W:World} {b:Nat} {y:Pt} {k:Nat} (h:k ≠ b):(set6 W b y).heap[k]? = W.heap[k]? :=
 (Below.heap_setCell _ _ _ _ h).trans ((Below.heap_setCell _ _ _ _ h).trans ((Below.heap_setCell _ _ _ _ h).trans ((Below.heap_setCell _ _ _ _ h).trans ((Below.heap_setCell _ _ _ _ h).trans (Below.heap_setCell _ _ _ _ h)))))
theorem below_set6 {n:Nat} {w W:World} {b:Nat} {y:Pt} (h:Below n w W) (hb:n≤b):Below n w (set6 W b y) :=
 (((((h.setCell (p:=⟨b,0,none⟩) hb _).setCell (p:=⟨b,1,none⟩) hb _).setCell (p:=⟨b,2,none⟩) hb _).setCell (p:=⟨b,3,none⟩) hb _).setCell (p:=⟨b,4,none⟩) hb _).setCell (p:=⟨b,5,none⟩) hb _
theorem end6 {fn:Func} {p:Tmp} {tmps:Array Value} {W:World} {b D:Nat} {y:Pt} (hr:fn.results=#[.cell p 25]) (hp:tmps.getD p undef=.pointer (some ⟨b,0,none⟩))
 (hb:W.heap[b]? = some (.cells y.cells 25 (0,0))) (hD:D ≠ b):(results fn tmps).run Tryz.prog (W.putObj D (.deferred none))=.ok y.val (W.putObj D (.deferred none)) :=
 results_cell_row hr tmps _ b 25 y.cells (0,0) _ hp ((World.putObj_heap_other (fun e=>hD e.symm)).trans hb) Tryz.underlying25 rfl (by kernel_rfl)
theorem copiedP_in (n:Nat) (x:Pt) (w:World) (hX:IsP w x) (hsm:x.size≤1048576) :
 CallsIn Fence.wide n Tryz.prog 62 #[x.val] w fun e w'=>∃ y:Pt,e=.returned y.val∧PA w' y∧Sm y x∧(∀ k,inP k y→w.heap.size≤k)∧Below w.heap.size w w':=by
 have hdd:∀ k:Nat,(Fence.wide.depth.isSome=true→1≤k):=fun k h=>by cases h
 refine callsIn_of_wp_marks Tryz.func62 rfl trivial ?_ rfl
 simp only [Tryz.ntmps62,List.size_toArray,List.length_cons,List.length_nil,Nat.reduceAdd,Nat.reduceSub,Array.replicate_succ,Array.replicate_zero,List.push_toArray,List.append_toArray,List.nil_append,List.cons_append]
 gi_wp2_with (refine ⟨trivial,hdd _,?_⟩;gi_at_call 56;refine (nodesP_in _ _ _).mono ?_;rintro e w' ⟨rfl,rfl⟩)
 obtain ⟨A,hA⟩:∃ A,(((w.alloc (.cells x.cells 25)).alloc (.cells Pt.nil.cells 25)).alloc (.cells #[.pointer (some ⟨w.heap.size,0,none⟩)] 84))=A:=⟨_,rfl⟩
 have hsz:A.heap.size=w.heap.size+3:=by rw [← hA];simp
 have hB:Below w.heap.size w A:=by rw [← hA];exact ((nwB w _).alloc (by simp) _).alloc (by simp;omega) _
 have hnode:NodeP A w.heap.size 0 x:=by
  rw [← hA]
  exact ((nodeP_new w 25 x).later (nwB _ _)).later (nwB _ _)
 have hfree:FreeP A w.heap.size:=by
  rw [← hA]
  exact ⟨x.cells,(alloc_old (by simp;omega)).trans ((alloc_old (by simp)).trans (alloc_new _ _))⟩
 have hres:A.heap[w.heap.size+1]? = some (.cells Pt.nil.cells 25 (0,0)):=by
  rw [← hA,alloc_old (by simp)]
  exact alloc2_new _ _ _
 have hbp:Boxed A (w.heap.size+1+1) 84 (.pointer (some ⟨w.heap.size,0,none⟩)):=by
  have:=Boxed.new ((w.alloc (.cells x.cells 25)).alloc (.cells Pt.nil.cells 25)) 84 (.pointer (some ⟨w.heap.size,0,none⟩))
  rw [World.size_alloc,World.size_alloc,hA] at this
  exact this
 show Code.wpIn _ _ _ _ _ _ (((w.alloc (.cells x.cells 25)).alloc (.cells Pt.nil.cells 25)).alloc (.cells #[.pointer (some ⟨w.heap.size,0,none⟩)] 84))
 rw [hA]
 have hXI:=hX.inn.below hB
 refine nodesP_walk (ι:=Pt) (w.heap.size+1+1) w.heap.size 0 x Pt.n Pt.c Pt.size (CopPPre w.heap.size) (CopP w.heap.size) (CopPMid w.heap.size) (CopPPost w.heap.size)
  rfl rfl hbp.cell Pt.size_part (fun v b o W B hag h=>h.ag hag (by omega)) (fun v b o W B B' W' hag hag' h=>h.ag hag hag' (by omega)) (fun v b o W W' B hag h=>h.ag hag (by omega))
  (fun W hW hs=>⟨hnode.below hW (by omega),hXI.below (hW.mono (by omega)),Nat.le_refl _,hfree.kept (T:=fun k=>k < A.heap.size) (Kp.of_below hW fun _ h=>h) (by omega),hsm,by omega⟩)
  (fun d b o=>{ tmps:=#[x.val,.pointer (some ⟨w.heap.size,0,none⟩),.pointer (some ⟨w.heap.size+1,0,none⟩),undef,.pointer (some ⟨b,o,none⟩),.func (.func 107) #[] #[.pointer (some ⟨w.heap.size+1+1,0,none⟩)],.int .i64 d,.pointer (some ⟨b,o,none⟩),undef,undef,undef,undef,undef,undef,undef,undef,undef],defers:=[] }) ?_ ?_
  (fun v b o W W' hp hg=>hg.mid hp) ?_ (fun v b o W a cap i Wi h hi=>h.next hi) (fun v b o W a cap Wi h=>h.done) ?_
 · intro l d b o W K hK
   gi_wp2
   first | exact hK | simpa using hK
 · rintro l d b o v W ⟨p1,p2,p3,p4,p5,p6⟩ hs ⟨u2,b2⟩ ⟨u3,b3⟩
   have hnv:v.n≤1048576:=by have:=lengthP_le_size v;omega
   have hcl:=cloneP_any v.a v.n v.cap v.c W (fun i hi=>by obtain ⟨b',o',e,_,hn,_⟩:=((pIn_eq _ _ _).1 p2).2.2 i hi;exact ⟨b',o',e,hn⟩) hnv
   have ne2:=p4.ne b2 (by decide)
   have ne3:=p4.ne b3 (by decide)
   have HP:=p1
   obtain ⟨d0,d1,d2,d3,d4,d5⟩:=p1
   gi_wp2_with (refine ⟨trivial,hdd _,?_⟩;gi_at_call 110;refine (CallsIn.inRound l (callsIn_wide.2 hcl)).mono ?_;clear hcl;rintro e W1 ⟨v1,rfl,ho,hB1⟩;obtain ⟨a1,cap1,rfl,hq1,hq2,hq3⟩:=ownP_nodes ho;clear ho;have d5':=(HP.later hB1).2.2.2.2.2;have ff:=(p4.kept (T:=fun k=>k < W.heap.size) (Kp.of_below hB1 fun _ h=>h) p4.lt).frozen (o+5))
   have hW1:Below w.heap.size W W1:=hB1.mono p6
   have kb:KbP b (o+5) (fun _=>False) W W1:=.of_below _ _ _ hB1
   refine ⟨((KeepsOthers.mk hB1.size fun k o ho _=>(hB1.block k (Array.getElem?_eq_some_iff.1 ho).1).trans ho).trans (KeepsOthers.setCell _ _ _)).from _,?_,a1,cap1,?_,hq1,hq2,fun h0=>?_,hW1.setCell (p:=⟨b,o+5,none⟩) p3 _,kb.trans (KbP.set _ _ _ _ _)⟩
   · refine Kp.trans (fun k o _ _ ho=>(hB1.block k (Array.getElem?_eq_some_iff.1 ho).1).trans ho) (Kp.set _ ?_)
     rintro (h | h)
     · omega
     · omega
   · obtain ⟨e0,e1,e2,e3,e4,e5⟩:=HP.later hB1
     refine ⟨?_,?_,?_,?_,?_,World.cell?_setCell_same _ _ _ e5⟩
     · exact (World.cell?_setCell_other _ _ _ _ (by intro e;injection e with _ e;omega)).trans e0
     · exact (World.cell?_setCell_other _ _ _ _ (by intro e;injection e with _ e;omega)).trans e1
     · exact (World.cell?_setCell_other _ _ _ _ (by intro e;injection e with _ e;omega)).trans e2
     · exact (World.cell?_setCell_other _ _ _ _ (by intro e;injection e with _ e;omega)).trans e3
     · exact (World.cell?_setCell_other _ _ _ _ (by intro e;injection e with _ e;omega)).trans e4
   · obtain ⟨g,eg,r1,r2,r3,r4⟩:=hq3 h0
     have hne:g ≠ b:=by have:=p4.lt;omega
     exact ⟨g,eg,r1,by rw [World.size_setCell];exact r2,r3.set,fun i hi=>(r4 i hi).kept (T:=fun k=>k ≠ b) (Kp.set _ (by simp)) hne⟩
 · rintro v b o W a cap i Wi ⟨c,h1,h2,h3,-⟩
   exact ⟨by unfold maxLen at h3;omega,h1.2.2.2.2.2⟩
 · rintro D W2 W hD hW2 hs ⟨y,h1,h2,h3,h4,h5,h6⟩ hK
   have g1:=h1.at0
   have hres2:W.heap[w.heap.size+1]? = some (.cells Pt.nil.cells 25 (0,0)):=h6.oth _ _ ⟨by omega,fun h=>h⟩ rfl ((hW2.block _ (by omega)).trans hres)
   have g2:NodeP W (w.heap.size+1) 0 Pt.nil:=nodeP_box hres2
   have gf:∀ j,W.frozen? ⟨w.heap.size+1,j,none⟩=false:=fun j=>FreeP.frozen ⟨_,hres2⟩ j
   obtain ⟨d0,d1,d2,d3,d4,d5⟩:=g1
   have g2':=g2.at0
   obtain ⟨e0,e1,e2,e3,e4,e5⟩:=g2'
   have f0:=gf 0
   have f1:=gf 1
   have f2:=gf 2
   have f3:=gf 3
   have f4:=gf 4
   have f5:=gf 5
   have hblk:(set6 W (w.heap.size+1) y).heap[w.heap.size+1]? = some (.cells y.cells 25 (0,0)):=heap_set6 hres2
   have hK':(set6 W (w.heap.size+1) y).heap[D]? = some (.deferred (some [])):=(heap_set6_other (by omega)).trans hK
   have hBf:Below w.heap.size w (set6 W (w.heap.size+1) y):=below_set6 ((hB.trans (hW2.mono (by omega))).trans h5) (by omega)
   have hkp:Kp (fun k=>k ≠ w.heap.size+1) W ((set6 W (w.heap.size+1) y).putObj D (.deferred none)):=fun k ob hk ho e=>by
    have hne:k ≠ D:=by rintro rfl;rw [hK] at e;cases e;cases ho
    exact (World.putObj_heap_other hne).trans ((heap_set6_other hk).trans e)
   gi_wp2
   refine ⟨by simp,.inl ⟨_,_,rfl,run_takeDeferred hK',?_⟩⟩
   exact ⟨_,end6 rfl rfl hblk (by omega),y,rfl,h2.kept hkp (fun k hk=>by have:=h4 k hk;omega),h3,fun k hk=>by have:=h4 k hk;omega,hBf.trans (belowK_b (w:=w) (Nat.le_refl _) _ D _ _ (by omega) hK' rfl rfl)⟩
theorem copiedP_any (x:Pt) (w:World) (hX:IsP w x) (hsm:x.size≤1048576):Calls Tryz.prog 62 #[x.val] w fun e w'=>∃ y:Pt,e=.returned y.val∧PA w' y∧Sm y x∧(∀ k,inP k y→w.heap.size≤k)∧Below w.heap.size w w' :=
 (callsIn_wide (n:=3)).1 (copiedP_in 3 x w hX hsm)
theorem results_row_tmp {P:Program} {fn:Func} {p u:Tmp} {ty:TypeId} (h:fn.results=#[.cell p ty,.tmp u]) (tmps:Array Value) (w:World) (g:Nat) (t:TypeId) (cs:Array Value) (fr:Nat × Nat) (d:TypeDesc)
 (hp:tmps.getD p undef=.pointer (some ⟨g,0,none⟩)) (hg:w.heap[g]? = some (.cells cs t fr))
 (hu:P.underlying ty=some d) (hd:(match d with | .struct _ | .array _ _=>true | _=>false)=true) (hi:(P.info? ty).map (·.size)=some cs.size) :
 (results fn tmps).run P w=.ok (.tuple #[.agg cs,tmps.getD u undef]) w:=by
 rw [results_cell_tmp h,hp]
 simp [asAddr,run_loadVar_row w g t ty cs fr d hg hu hd hi]
abbrev zeroP:Array Value:=#[.int .i64 0,.string ⟨#[]⟩,.string ⟨#[]⟩,.int .i64 0,.int .i64 0,.slice none 0 0]
theorem boxP_res (x:Pt) (w:World):∃ A,(w.alloc (.cells x.cells 25)).alloc (.cells zeroP 25)=A∧Below w.heap.size w A∧A.heap.size=w.heap.size+2∧NodeP A w.heap.size 0 x∧A.heap[w.heap.size+1]? = some (.cells zeroP 25 (0,0)) :=
 ⟨_,rfl,(nwB w _).alloc (by simp) _,by simp,(nodeP_new w _ x).later (nwB _ _),alloc2_new _ _ _⟩
theorem zero_cells {w:World} {B:Nat} (h:w.heap[B]? = some (.cells zeroP 25 (0,0))):(w.cell? ⟨B,0,none⟩=some (.int .i64 0)∧w.cell? ⟨B,1,none⟩=some (.string ⟨#[]⟩)∧w.cell? ⟨B,2,none⟩=some (.string ⟨#[]⟩)∧w.cell? ⟨B,3,none⟩=some (.int .i64 0)∧w.cell? ⟨B,4,none⟩=some (.int .i64 0)∧w.cell? ⟨B,5,none⟩=some (.slice none 0 0)) ∧
 w.frozen? ⟨B,0,none⟩=false∧w.frozen? ⟨B,1,none⟩=false∧w.frozen? ⟨B,2,none⟩=false∧w.frozen? ⟨B,3,none⟩=false∧w.frozen? ⟨B,4,none⟩=false∧w.frozen? ⟨B,5,none⟩=false:=by
 refine ⟨nodeP_box (x:=.nil) h |>.at0,?_,?_,?_,?_,?_,?_⟩ <;> exact FreeP.frozen ⟨_,h⟩ _
def HasTail (x:Pt) (q:Nat):Prop:=x.k=2∧x.n=q+1∧(x.c q).k=6
theorem noTail {x:Pt} (h:∀ q,¬ HasTail x q):¬ x.k=2 ∨ (x.k=2∧x.n=0) ∨ (x.k=2∧∃ q,x.n=q+1∧¬ (x.c q).k=6):=by
 by_cases h1:x.k=2
 · by_cases h2:x.n=0
   · exact .inr (.inl ⟨h1,h2⟩)
   · exact .inr (.inr ⟨h1,x.n - 1,by omega,fun h3=>h (x.n - 1) ⟨h1,by omega,h3⟩⟩)
 · exact .inl h1
theorem HasTail.one {x:Pt} {p q:Nat} (h:HasTail x p) (g:HasTail x q):p=q:=by have:=h.2.1;have:=g.2.1;omega
theorem tail_yes (x:Pt) (q:Nat) (w:World) (hX:IsP w x) (hsm:x.size≤1048576) (h:HasTail x q):Calls Tryz.prog 19 #[x.val] w fun e w'=>∃ y:Pt,e=.returned (.tuple #[y.val,.bool true])∧PA w' y∧Sm y (x.c q)∧(∀ k,inP k y→w.heap.size≤k)∧Below w.heap.size w w':=by
 obtain ⟨A,hA,hB,hs,hn,hr⟩:=boxP_res x w
 obtain ⟨a0,a1,a2,a3,a4,a5⟩:=hn.at0
 have HB:=hid hB
 have HR:=hid hr
 obtain ⟨h1,h2,h3⟩:=h
 have hlen:=hX.len
 obtain ⟨b,o,ea,hm,hx⟩:=(hX.later hB).part (show q < x.n by omega)
 have hx0:IsP w (x.c q):=by obtain ⟨_,_,_,_,h⟩:=hX.part (show q < x.n by omega);exact h
 have HX0:=hid hx0
 have hc:=copiedP_any (x.c q) A hx (by have:=x.size_part q (by omega);omega)
 rw [ea] at a5
 have hq:((x.n:Nat):Int) - 1=(q:Int):=by omega
 have hlt:q < x.n:=by omega
 have hpos:0 < x.n:=by omega
 have hnz:(((x.n:Nat):Int) == 0)=false:=by simp;omega
 obtain ⟨d0,d1,d2,d3,d4,d5⟩:=hm
 have t1:(x.k == 2)=true:=by simp [h1]
 have t3:((x.c q).k == 6)=true:=by simp [h3]
 obtain ⟨⟨g0,g1,g2,g3,g4,g5⟩,f0,f1,f2,f3,f4,f5⟩:=zero_cells HR.out
 clear hB hn hr hX hx hx0 h1 h2 h3 ea g0 g1 g2 g3 g4 g5 f0 f1 f2 f3 f4 f5
 go_enter Tryz.func19,Tryz.ntmps19
 go_wp2_with (go_at_call 62;refine hc.mono ?_;clear hc;rintro e w2 ⟨y,rfl,hPA,hSm,hin,hB2⟩;have hr2:=(hB2.block (w.heap.size+1) (by omega)).trans HR.out;obtain ⟨⟨g0,g1,g2,g3,g4,g5⟩,f0,f1,f2,f3,f4,f5⟩:=zero_cells hr2)
 have hblk:(set6 w2 (w.heap.size+1) y).heap[w.heap.size+1]? = some (.cells y.cells 25 (0,0)):=heap_set6 (z:=.nil) hr2
 refine bodyPost_ret (results_row_tmp rfl _ _ (w.heap.size+1) 25 _ (0,0) _ rfl hblk Tryz.underlying25 rfl (by kernel_rfl)) rfl ?_
 exact ⟨y,rfl,hPA.kept (T:=fun k=>k ≠ w.heap.size+1) (fun k o hk _ e=>(heap_set6_other hk).trans e) (fun k hk=>by have:=hin k hk;omega),hSm,fun k hk=>by have:=hin k hk;omega,below_set6 (HB.out.trans (hB2.mono (by omega))) (by omega)⟩
theorem tail_no (x:Pt) (w:World) (hX:IsP w x) (h:∀ q,¬ HasTail x q):Calls Tryz.prog 19 #[x.val] w (RV (.tuple #[.agg zeroP,.bool false]) w):=by
 obtain ⟨A,hA,hB,hs,hn,hr⟩:=boxP_res x w
 obtain ⟨a0,a1,a2,a3,a4,a5⟩:=hn.at0
 have HB:=hid hB
 have HR:=hid hr
 have hlen:=hX.len
 have HX:Hid (IsP A x):=hX.later hB
 obtain ⟨⟨g0,g1,g2,g3,g4,g5⟩,f0,f1,f2,f3,f4,f5⟩:=zero_cells HR.out
 have HBL:Hid ((set6 A (w.heap.size+1) .nil).heap[w.heap.size+1]? = some (.cells zeroP 25 (0,0))):=heap_set6 (z:=.nil) HR.out
 have HBE:Hid (Below w.heap.size w (set6 A (w.heap.size+1) .nil)):=below_set6 HB.out (by omega)
 clear hB hn hr hX hs
 rcases noTail h with h1 | ⟨h1,h2⟩ | ⟨h1,q,h2,h3⟩
 · have t1:(x.k == 2)=false:=by simp [h1]
   clear h h1
   go_enter Tryz.func19,Tryz.ntmps19
   go_wp2
   refine bodyPost_ret (results_row_tmp rfl _ _ (w.heap.size+1) 25 _ (0,0) _ rfl HBL.out Tryz.underlying25 rfl (by kernel_rfl)) rfl ?_
   exact ⟨rfl,HBE.out⟩
 · have t1:(x.k == 2)=true:=by simp [h1]
   rw [h2] at a5
   clear h h1 h2
   go_enter Tryz.func19,Tryz.ntmps19
   go_wp2
   refine bodyPost_ret (results_row_tmp rfl _ _ (w.heap.size+1) 25 _ (0,0) _ rfl HBL.out Tryz.underlying25 rfl (by kernel_rfl)) rfl ?_
   exact ⟨rfl,HBE.out⟩
 · have t1:(x.k == 2)=true:=by simp [h1]
   have t3:((x.c q).k == 6)=false:=by simp [h3]
   obtain ⟨b,o,ea,hm,-⟩:=HX.out.part (show q < x.n by omega)
   rw [ea] at a5
   have hq:((x.n:Nat):Int) - 1=(q:Int):=by omega
   have hlt:q < x.n:=by omega
   have hpos:0 < x.n:=by omega
   have hnz:(((x.n:Nat):Int) == 0)=false:=by simp;omega
   obtain ⟨d0,d1,d2,d3,d4,d5⟩:=hm
   clear h h1 h2 h3 ea
   go_enter Tryz.func19,Tryz.ntmps19
   go_upto_region 4 with (fail)
   clear d0 d1 d2 d3 d4 d5 a0 a1 a2 a3 a4 a5 hq hlt hpos hnz t1 t3
   go_wp2
   refine bodyPost_ret (results_row_tmp rfl _ _ (w.heap.size+1) 25 _ (0,0) _ rfl HBL.out Tryz.underlying25 rfl (by kernel_rfl)) rfl ?_
   exact ⟨rfl,HBE.out⟩
theorem refTail_yes (x:Pt) (q:Nat) (w:World) (hX:IsP w x) (h:HasTail x q):Calls Tryz.prog 27 #[x.val] w fun e w'=>e=.returned (.tuple #[(x.c q).val,.bool true])∧IsP w (x.c q)∧Below w.heap.size w w':=by
 obtain ⟨A,hA,hB,hs,hn,hr⟩:=boxP_res x w
 obtain ⟨a0,a1,a2,a3,a4,a5⟩:=hn.at0
 have HB:=hid hB
 have HR:=hid hr
 obtain ⟨h1,h2,h3⟩:=h
 have hlen:=hX.len
 obtain ⟨b,o,ea,hm,hx⟩:=(hX.later hB).part (show q < x.n by omega)
 have hx0:IsP w (x.c q):=by obtain ⟨_,_,_,_,h⟩:=hX.part (show q < x.n by omega);exact h
 have HX0:=hid hx0
 rw [ea] at a5
 have hq:((x.n:Nat):Int) - 1=(q:Int):=by omega
 have hlt:q < x.n:=by omega
 have hpos:0 < x.n:=by omega
 have hnz:(((x.n:Nat):Int) == 0)=false:=by simp;omega
 obtain ⟨d0,d1,d2,d3,d4,d5⟩:=hm
 have t1:(x.k != 2)=false:=by simp [h1]
 have t3:((x.c q).k != 6)=false:=by simp [h3]
 obtain ⟨⟨g0,g1,g2,g3,g4,g5⟩,f0,f1,f2,f3,f4,f5⟩:=zero_cells HR.out
 have hblk:(set6 A (w.heap.size+1) (x.c q)).heap[w.heap.size+1]? = some (.cells (x.c q).cells 25 (0,0)):=heap_set6 (z:=.nil) HR.out
 clear hB hn hr hX hx hx0 h1 h2 h3 ea
 go_enter Tryz.func27,Tryz.ntmps27
 go_wp2
 refine bodyPost_ret (results_row_tmp rfl _ _ (w.heap.size+1) 25 _ (0,0) _ rfl hblk Tryz.underlying25 rfl (by kernel_rfl)) rfl ?_
 exact ⟨rfl,HX0.out,below_set6 HB.out (by omega)⟩
theorem refTail_no (x:Pt) (w:World) (hX:IsP w x) (h:∀ q,¬ HasTail x q):Calls Tryz.prog 27 #[x.val] w (RV (.tuple #[.agg zeroP,.bool false]) w):=by
 obtain ⟨A,hA,hB,hs,hn,hr⟩:=boxP_res x w
 obtain ⟨a0,a1,a2,a3,a4,a5⟩:=hn.at0
 have HB:=hid hB
 have HR:=hid hr
 have hlen:=hX.len
 have HX:Hid (IsP A x):=hX.later hB
 obtain ⟨⟨g0,g1,g2,g3,g4,g5⟩,f0,f1,f2,f3,f4,f5⟩:=zero_cells HR.out
 have HBL:Hid ((set6 A (w.heap.size+1) .nil).heap[w.heap.size+1]? = some (.cells zeroP 25 (0,0))):=heap_set6 (z:=.nil) HR.out
 have HBE:Hid (Below w.heap.size w (set6 A (w.heap.size+1) .nil)):=below_set6 HB.out (by omega)
 clear hB hn hr hX hs
 rcases noTail h with h1 | ⟨h1,h2⟩ | ⟨h1,q,h2,h3⟩
 · have t1:(x.k != 2)=true:=by simp [h1]
   clear h h1
   go_enter Tryz.func27,Tryz.ntmps27
   go_wp2
   refine bodyPost_ret (results_row_tmp rfl _ _ (w.heap.size+1) 25 _ (0,0) _ rfl HBL.out Tryz.underlying25 rfl (by kernel_rfl)) rfl ?_
   exact ⟨rfl,HBE.out⟩
 · have t1:(x.k != 2)=false:=by simp [h1]
   rw [h2] at a5
   clear h h1 h2
   go_enter Tryz.func27,Tryz.ntmps27
   go_wp2
   refine bodyPost_ret (results_row_tmp rfl _ _ (w.heap.size+1) 25 _ (0,0) _ rfl HBL.out Tryz.underlying25 rfl (by kernel_rfl)) rfl ?_
   exact ⟨rfl,HBE.out⟩
 · have t1:(x.k != 2)=false:=by simp [h1]
   have t3:((x.c q).k != 6)=true:=by simp [h3]
   obtain ⟨b,o,ea,hm,-⟩:=HX.out.part (show q < x.n by omega)
   rw [ea] at a5
   have hq:((x.n:Nat):Int) - 1=(q:Int):=by omega
   have hlt:q < x.n:=by omega
   have hpos:0 < x.n:=by omega
   have hnz:(((x.n:Nat):Int) == 0)=false:=by simp;omega
   obtain ⟨d0,d1,d2,d3,d4,d5⟩:=hm
   clear h h1 h2 h3 ea
   go_enter Tryz.func27,Tryz.ntmps27
   go_upto_region 3 with (fail)
   clear d0 d1 d2 d3 d4 d5 a0 a1 a2 a3 a4 a5 hq hlt hpos hnz t1 t3
   go_wp2
   refine bodyPost_ret (results_row_tmp rfl _ _ (w.heap.size+1) 25 _ (0,0) _ rfl HBL.out Tryz.underlying25 rfl (by kernel_rfl)) rfl ?_
   exact ⟨rfl,HBE.out⟩
end Go.Proofs.YtkfpgkohkhhlhaaGreatDoor
