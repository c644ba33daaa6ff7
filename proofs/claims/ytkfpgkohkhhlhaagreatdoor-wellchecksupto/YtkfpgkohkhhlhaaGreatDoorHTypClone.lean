/- Texts that the last one stands on. -/
import Derived.Test.YtkfpgkohkhhlhaaGreatDoorHSchBase
import Derived.Test.YtkfpgkohkhhlhaaGreatDoorHExprRefRightN
import Derived.Test.YtkfpgkohkhhlhaaGreatDoorRows
import Derived.LaidEql
import Derived.Stop.Asserts
import Derived.RowKitTokens
set_option maxRecDepth 100000
set_option maxHeartbeats 4000000
namespace Go.Proofs.YtkfpgkohkhhlhaaGreatDoor
open Go.RowKit
def row2 (Nm:Nat→ByteArray) (V:Nat→Value):Nat→List Value
 | 0=>[]
 | n+1=>row2 Nm V n ++ [.string (Nm n),V n]
theorem row2_len (Nm:Nat→ByteArray) (V:Nat→Value):∀ n,(row2 Nm V n).length=n * 2
 | 0=>rfl
 | n+1=>by rw [row2,List.length_append,row2_len Nm V n];simp;omega
theorem row2_get (Nm:Nat→ByteArray) (V:Nat→Value):∀ n i,i < n→(row2 Nm V n)[i * 2]? = some (.string (Nm i))∧(row2 Nm V n)[i * 2+1]? = some (V i)
 | 0,_,h=>by omega
 | n+1,i,h=>by
   rw [row2]
   by_cases e:i=n
   · subst e
     rw [List.getElem?_append_right (by rw [row2_len];omega),row2_len,List.getElem?_append_right (by rw [row2_len];omega),row2_len,show i * 2 - i * 2=0 by omega,show i * 2+1 - i * 2=1 by omega]
     exact ⟨rfl,rfl⟩
   · rw [List.getElem?_append_left (by rw [row2_len];omega),List.getElem?_append_left (by rw [row2_len];omega)]
     exact row2_get Nm V n i (by omega)
theorem row2_one (Nm:Nat→ByteArray) (V:Nat→Value):∀ n,(∀ j,j < n→(V j).oneCell'=true)→∀ u ∈ row2 Nm V n,u.oneCell'=true
 | 0,_,u,h=>by simp [row2] at h
 | n+1,hV,u,h=>by
   rw [row2,List.mem_append] at h
   rcases h with h | h
   · exact row2_one Nm V n (fun j hj=>hV j (by omega)) u h
   · simp at h
     rcases h with rfl | rfl
     · rfl
     · exact hV n (by omega)
theorem add_two (b o j:Nat):(Addr.mk b o none).add j=⟨b,o+j,none⟩:=by
 unfold Addr.add
 split
 · simp
 · rfl
theorem row2_cells {w:World} {b o n:Nat} {Nm:Nat→ByteArray} {V:Nat→Value} (h:∀ i,i < n→w.cell? ⟨b,o+i * 2,none⟩=some (.string (Nm i))∧w.cell? ⟨b,o+i * 2+1,none⟩=some (V i)):∀ j u,(row2 Nm V n)[j]? = some u→w.cell? ((Addr.mk b o none).add j)=some u:=by
 intro j u hu
 have hj:j < n * 2:=by have:=(List.getElem?_eq_some_iff.1 hu).1;rwa [row2_len] at this
 have hi:j / 2 < n:=by omega
 obtain ⟨g0,g1⟩:=row2_get Nm V n (j / 2) hi
 obtain ⟨c0,c1⟩:=h (j / 2) hi
 rw [add_two]
 rcases Nat.mod_two_eq_zero_or_one j with e | e
 · rw [show j / 2 * 2=j by omega] at g0 c0
   rw [hu] at g0
   cases g0
   exact c0
 · rw [show j / 2 * 2+1=j by omega] at g1
   rw [hu] at g1
   cases g1
   rw [show o+j=o+j / 2 * 2+1 by omega]
   exact c1
theorem infoS2:(Tryz.prog.info? 115).map (fun i=>(i.zero,i.size,i.bytes))=some (some (.agg #[.string ⟨#[]⟩,.slice none 0 0]),2,40):=by kernel_rfl
theorem cloneS_any (a:Option Addr) (n cap:Nat) (Nm:Nat→ByteArray) (V:Nat→Value) (w:World) (h:Row2 w a n Nm V) (hV:∀ j,j < n→(V j).oneCell'=true) (hn:n≤1048576) :
 Calls Tryz.prog 177 #[.slice a n cap] w fun e w'=>∃ v,e=.returned v∧w'.ownsRow w.heap.size 115 2 v n (row2 Nm V n)∧Below w.heap.size w w':=by
 cases a with
 | none =>
   obtain rfl:n=0:=by
    by_cases h0:0 < n
    · obtain ⟨_,_,e,_⟩:=h h0
      cases e
    · omega
   clear h hV
   have he:∀ w:World,(binOp .eql 22 (.slice none 0 cap) (.slice none 0 0)).run Tryz.prog w=.ok (.bool true) w:=fun _=>rfl
   go_enter Tryz.func177,Tryz.ntmps177
   go_wp2
   go_ret
   exact ⟨_,rfl,World.ownsRow_nil _ _ _ _,Below.refl _ _⟩
 | some x =>
   have hB0:Below w.heap.size w (w.alloc (.cells #[] 115)):=nwB _ _
   have hown0:(w.alloc (.cells #[] 115)).ownsRow w.heap.size 115 2 (.slice (some ⟨w.heap.size,0,none⟩) 0 0) 0 [] :=
    ⟨rfl,.inr ⟨w.heap.size,0,#[],rfl,Nat.le_refl _,heap_alloc_new w _,Nat.le_refl _,Nat.zero_le _,rfl,rfl⟩⟩
   obtain ⟨i0,hi,hz0,hz1,hz2⟩:=info_parts infoS2
   obtain ⟨v1,w1,hrun1,hown1,hg1,_⟩:=run_append_own (P:=Tryz.prog) (w:=w.alloc (.cells #[] 115)) w.heap.size 22 22 115 i0 _ 2 40 Tryz.underlying22 hi hz0 hz1 hz2 rfl (by decide) _ 0 [] hown0 x n cap (row2 Nm V n) (row2_len Nm V n)
    (fun j u hu=>by
      have h0:0 < n:=by
       have:=(List.getElem?_eq_some_iff.1 hu).1
       rw [row2_len] at this
       omega
      obtain ⟨b,o,e,hc⟩:=h h0
      cases e
      exact row2_cells (fun i hi=>⟨cell_later (hc i hi).1.1 hB0,cell_later (hc i hi).1.2 hB0⟩) j u hu) (row2_one Nm V n hV) (by unfold maxLen;omega) (by omega) (by simp)
   simp only [Nat.zero_add,List.nil_append] at hown1
   have hB1:Below w.heap.size w w1:=hB0.grown hg1 (by simp) (by intro k hk;simp [Value.ownBlock] at hk;omega)
   have HR1:=hid hrun1
   clear h hV hown0 hB0 hg1 hrun1
   have he:∀ w:World,(binOp .eql 22 (.slice (some x) n cap) (.slice none 0 0)).run Tryz.prog w=.ok (.bool false) w:=fun _=>rfl
   go_enter Tryz.func177,Tryz.ntmps177
   go_wp2_with (first | (at_builtin;refine wpList_append_run rfl (.tmp 5) (.tmp 6) 22 rfl _ _ _ rfl rfl HR1.out ?_))
   go_ret
   exact ⟨_,rfl,hown1,hB1⟩
theorem infoF2:(Tryz.prog.info? 112).map (fun i=>(i.zero,i.size,i.bytes))=some (some (.agg #[.string ⟨#[]⟩,.int .i64 0]),2,24):=by kernel_rfl
theorem cloneF_any (a:Option Addr) (n cap:Nat) (Nm:Nat→ByteArray) (V:Nat→Value) (w:World) (h:Row2 w a n Nm V) (hV:∀ j,j < n→(V j).oneCell'=true) (hn:n≤1048576) :
 Calls Tryz.prog 178 #[.slice a n cap] w fun e w'=>∃ v,e=.returned v∧w'.ownsRow w.heap.size 112 2 v n (row2 Nm V n)∧Below w.heap.size w w':=by
 cases a with
 | none =>
   obtain rfl:n=0:=by
    by_cases h0:0 < n
    · obtain ⟨_,_,e,_⟩:=h h0
      cases e
    · omega
   clear h hV
   have he:∀ w:World,(binOp .eql 113 (.slice none 0 cap) (.slice none 0 0)).run Tryz.prog w=.ok (.bool true) w:=fun _=>rfl
   go_enter Tryz.func178,Tryz.ntmps178
   go_wp2
   go_ret
   exact ⟨_,rfl,World.ownsRow_nil _ _ _ _,Below.refl _ _⟩
 | some x =>
   have hB0:Below w.heap.size w (w.alloc (.cells #[] 112)):=nwB _ _
   have hown0:(w.alloc (.cells #[] 112)).ownsRow w.heap.size 112 2 (.slice (some ⟨w.heap.size,0,none⟩) 0 0) 0 [] :=
    ⟨rfl,.inr ⟨w.heap.size,0,#[],rfl,Nat.le_refl _,heap_alloc_new w _,Nat.le_refl _,Nat.zero_le _,rfl,rfl⟩⟩
   obtain ⟨i0,hi,hz0,hz1,hz2⟩:=info_parts infoF2
   obtain ⟨v1,w1,hrun1,hown1,hg1,_⟩:=run_append_own (P:=Tryz.prog) (w:=w.alloc (.cells #[] 112)) w.heap.size 113 113 112 i0 _ 2 24 Tryz.underlying113 hi hz0 hz1 hz2 rfl (by decide) _ 0 [] hown0 x n cap (row2 Nm V n) (row2_len Nm V n)
    (fun j u hu=>by
      have h0:0 < n:=by
       have:=(List.getElem?_eq_some_iff.1 hu).1
       rw [row2_len] at this
       omega
      obtain ⟨b,o,e,hc⟩:=h h0
      cases e
      exact row2_cells (fun i hi=>⟨cell_later (hc i hi).1.1 hB0,cell_later (hc i hi).1.2 hB0⟩) j u hu) (row2_one Nm V n hV) (by unfold maxLen;omega) (by omega) (by simp)
   simp only [Nat.zero_add,List.nil_append] at hown1
   have hB1:Below w.heap.size w w1:=hB0.grown hg1 (by simp) (by intro k hk;simp [Value.ownBlock] at hk;omega)
   have HR1:=hid hrun1
   clear h hV hown0 hB0 hg1 hrun1
   have he:∀ w:World,(binOp .eql 113 (.slice (some x) n cap) (.slice none 0 0)).run Tryz.prog w=.ok (.bool false) w:=fun _=>rfl
   go_enter Tryz.func178,Tryz.ntmps178
   go_wp2_with (first | (at_builtin;refine wpList_append_run rfl (.tmp 5) (.tmp 6) 113 rfl _ _ _ rfl rfl HR1.out ?_))
   go_ret
   exact ⟨_,rfl,hown1,hB1⟩
def SameS (x y:Sch):Prop:=y.nm=x.nm∧y.l=x.l∧y.fn=x.fn∧y.fk=x.fk
theorem SameS.refl (x:Sch):SameS x x:=⟨rfl,rfl,rfl,rfl⟩
structure Own2 (w:World) (g n:Nat) (Q:Nat→Sch):Prop where
 free:∃ cur,w.heap[g]? = some (.cells cur 115 (0,0))
 cells:∀ j,j < n→w.cell? ⟨g,j * 2,none⟩=some (.string (Q j).nm)∧w.cell? ⟨g,j * 2+1,none⟩=some (Q j).v∧(Q j).nm.size≤maxLen
 flds:∀ j,j < n→Flds w (Q j).a (Q j).l (Q j).fn (Q j).fk∧(0 < (Q j).l→∀ b o,(Q j).a=some ⟨b,o,none⟩→b ≠ g)∧(Q j).l≤16
theorem Own2.later {w w':World} {g n:Nat} {Q:Nat→Sch} (h:Own2 w g n Q) (hB:Below w.heap.size w w'):Own2 w' g n Q:=by
 obtain ⟨cur,hc⟩:=h.free
 exact ⟨⟨cur,(hB.block _ (Array.getElem?_eq_some_iff.1 hc).1).trans hc⟩,fun j hj=>⟨cell_later (h.cells j hj).1 hB,cell_later (h.cells j hj).2.1 hB,(h.cells j hj).2.2⟩,fun j hj=>⟨(h.flds j hj).1.later hB,(h.flds j hj).2⟩⟩
theorem Own2.frozen {w:World} {g n:Nat} {Q:Nat→Sch} (h:Own2 w g n Q) (o:Nat):w.frozen? ⟨g,o,none⟩=false:=by
 obtain ⟨cur,hc⟩:=h.free
 simp [World.frozen?,hc]
theorem Own2.schs {w:World} {g n:Nat} {Q:Nat→Sch} (h:Own2 w g n Q):Schs w (some ⟨g,0,none⟩) n Q:=by
 refine ⟨fun _=>⟨g,0,rfl,fun j hj=>?_⟩,fun j hj=>⟨(h.flds j hj).1,by have:=(h.flds j hj).2.2;omega⟩⟩
 simp only [Nat.zero_add]
 exact ⟨⟨(h.cells j hj).1,(h.cells j hj).2.1⟩,(h.cells j hj).2.2⟩
theorem Own2.set {w:World} {g n k:Nat} {Q:Nat→Sch} (h:Own2 w g n Q) (hk:k < n) {a:Option Addr} {c:Nat} (hF:Flds w a (Q k).l (Q k).fn (Q k).fk) (ha:0 < (Q k).l→∀ b o,a=some ⟨b,o,none⟩→b ≠ g) :
 Own2 (w.setCell ⟨g,k * 2+1,none⟩ (.slice a (Q k).l c)) g n (fun j=>if j=k then { Q k with a:=a,c:=c } else Q j):=by
 obtain ⟨cur,hc⟩:=h.free
 have hlt:g < w.heap.size:=(Array.getElem?_eq_some_iff.1 hc).1
 have hcell:∀ (p:Addr),p ≠ ⟨g,k * 2+1,none⟩→∀ v,w.cell? p=some v→(w.setCell ⟨g,k * 2+1,none⟩ (.slice a (Q k).l c)).cell? p=some v:=fun p hp v hv=>by
  rw [World.cell?_setCell_other _ _ _ _ (fun e=>hp e.symm)];exact hv
 have hat:(w.setCell ⟨g,k * 2+1,none⟩ (.slice a (Q k).l c)).cell? ⟨g,k * 2+1,none⟩=some (.slice a (Q k).l c):=World.cell?_setCell_same _ _ _ (h.cells k hk).2.1
 have hfl:∀ {a':Option Addr} {l:Nat} {fn:Nat→ByteArray} {fk:Nat→Int},Flds w a' l fn fk→(0 < l→∀ b o,a'=some ⟨b,o,none⟩→b ≠ g)→Flds (w.setCell ⟨g,k * 2+1,none⟩ (.slice a (Q k).l c)) a' l fn fk:=fun hf hb h0=>by
  obtain ⟨b,o,e,hcs⟩:=hf h0
  have hne:=hb h0 b o e
  refine ⟨b,o,e,fun j hj=>⟨⟨hcell _ (fun e=>hne (by injection e)) _ (hcs j hj).1.1,hcell _ (fun e=>hne (by injection e)) _ (hcs j hj).1.2⟩,(hcs j hj).2⟩⟩
 refine ⟨?_,fun j hj=>?_,fun j hj=>?_⟩
 · exact ⟨cur.setIfInBounds (k * 2+1) (.slice a (Q k).l c),by simp [World.setCell,Array.getElem?_modify,hc]⟩
 · by_cases e:j=k
   · subst e
     simp only [if_pos]
     exact ⟨hcell _ (fun e=>by injection e;omega) _ (h.cells j hj).1,hat,(h.cells j hj).2.2⟩
   · simp only [if_neg e]
     exact ⟨hcell _ (fun e=>by injection e;omega) _ (h.cells j hj).1,hcell _ (fun e=>by injection e;omega) _ (h.cells j hj).2.1,(h.cells j hj).2.2⟩
 · by_cases e:j=k
   · subst e
     simp only [if_pos]
     exact ⟨hfl hF ha,ha,(h.flds j hj).2.2⟩
   · simp only [if_neg e]
     exact ⟨hfl (h.flds j hj).1 (h.flds j hj).2.1,(h.flds j hj).2⟩
theorem own_row2 {w:World} {base n:Nat} {v:Value} {T:TypeId} {Nm:Nat→ByteArray} {V:Nat→Value} (h:w.ownsRow base T 2 v n (row2 Nm V n)) :
 ∃ a cap,v=.slice a n cap∧(0 < n→∃ g,a=some ⟨g,0,none⟩∧base≤g∧(∃ cur,w.heap[g]? = some (.cells cur T (0,0)))∧∀ i,i < n→w.cell? ⟨g,i * 2,none⟩=some (.string (Nm i))∧w.cell? ⟨g,i * 2+1,none⟩=some (V i)):=by
 rcases h.2 with ⟨rfl,rfl⟩ | ⟨g,cap,cur,rfl,hg,hc,hnc,hcm,hs,ht⟩
 · exact ⟨none,0,rfl,fun h=>by omega⟩
 · refine ⟨_,cap,rfl,fun h0=>⟨g,rfl,hg,⟨cur,hc⟩,fun i hi=>?_⟩⟩
   have key:∀ j,j < n * 2→w.cell? ⟨g,j,none⟩=(row2 Nm V n)[j]?:=by
    intro j hj
    rw [← ht,List.getElem?_take_of_lt (by omega)]
    simp only [World.cell?,hc]
    rw [Array.getElem?_toList]
    rfl
   rw [key _ (by omega),key _ (by omega)]
   exact row2_get Nm V n i hi
theorem cloneFlds (w:World) (x:Sch) (hF:Flds w x.a x.l x.fn x.fk) (hl:x.l≤16):Calls Tryz.prog 178 #[x.v] w fun e w'=>∃ a cap,e=.returned (.slice a x.l cap)∧Flds w' a x.l x.fn x.fk∧(0 < x.l→∀ b o,a=some ⟨b,o,none⟩→w.heap.size≤b)∧Below w.heap.size w w':=by
 refine (cloneF_any x.a x.l x.c x.fn _ w hF (fun _ _=>rfl) (by omega)).mono ?_
 rintro e w' ⟨v,rfl,ho,hB⟩
 obtain ⟨a,cap,rfl,hg⟩:=own_row2 ho
 refine ⟨a,cap,rfl,fun h0=>?_,fun h0 b o e=>?_,hB⟩
 · obtain ⟨g,e,hg1,_,hc⟩:=hg h0
   obtain ⟨b,o,_,hs⟩:=hF h0
   exact ⟨g,0,e,fun j hj=>⟨by simp only [Nat.zero_add];exact hc j hj,(hs j hj).2⟩⟩
 · obtain ⟨g,e',hg1,_,hc⟩:=hg h0
   rw [e] at e'
   cases e'
   exact hg1
theorem cloneSchs (w:World) (a:Option Addr) (n cap:Nat) (Q:Nat→Sch) (H:Schs w a n Q) (hn:n≤16) (hl:∀ j,j < n→(Q j).l≤16):Calls Tryz.prog 177 #[.slice a n cap] w fun e w'=>∃ a1 cap1,e=.returned (.slice a1 n cap1)∧(0 < n→∃ g,a1=some ⟨g,0,none⟩∧w.heap.size≤g∧Own2 w' g n Q)∧Below w.heap.size w w':=by
 refine (cloneS_any a n cap _ _ w H.1 (fun _ _=>rfl) (by omega)).mono ?_
 rintro e w' ⟨v,rfl,ho,hB⟩
 obtain ⟨a1,cap1,rfl,hg⟩:=own_row2 ho
 refine ⟨a1,cap1,rfl,fun h0=>?_,hB⟩
 obtain ⟨g,e,hg1,hfr,hc⟩:=hg h0
 obtain ⟨b,o,_,hs⟩:=H.1 h0
 refine ⟨g,e,hg1,hfr,fun j hj=>⟨(hc j hj).1,(hc j hj).2,(hs j hj).2⟩,fun j hj=>⟨(H.2 j hj).1.later hB,fun h1 b o e=>?_,hl j hj⟩⟩
 obtain ⟨b',o',e',hs'⟩:=(H.2 j hj).1 h1
 rw [e] at e'
 cases e'
 have:=World.block_lt_of_cell? w _ (hs' 0 h1).1.1
 simp at this
 omega
theorem copiedS_any (a:Option Addr) (n cap:Nat) (Q:Nat→Sch) (w:World) (H:Schs w a n Q) (hn:n≤16) (hl:∀ j,j < n→(Q j).l≤16) :
 Calls Tryz.prog 149 #[.slice a n cap] w fun e w'=>∃ a1 cap1 Q1,e=.returned (.slice a1 n cap1)∧Schs w' a1 n Q1∧(∀ j,j < n→SameS (Q j) (Q1 j))∧Below w.heap.size w w':=by
 have C1:Hid (Calls Tryz.prog 177 _ w _):=cloneSchs w a n cap Q H hn hl
 clear H hl
 go_enter Tryz.func149,Tryz.ntmps149
 go_wp2_with (first | (go_at_call 177;refine C1.out.mono ?_;rintro e w1 ⟨a1,cap1,rfl,hO,hB1⟩))
 have HO:=hid hO
 clear hO C1
 go_loopw [8] (fun v wr=>∃ k:Nat,k≤n∧v=.int .i64 k∧Hid (0 < n→∃ g Q1,a1=some ⟨g,0,none⟩∧w.heap.size≤g∧Own2 wr g n Q1∧∀ j,j < n→SameS (Q j) (Q1 j))∧Below w.heap.size w wr) (fun v _=>n - (intOf v).toNat)
 case atStart=>exact ⟨0,Nat.zero_le _,rfl,fun h0=>by obtain ⟨g,e,hg,ho⟩:=HO.out h0;exact ⟨g,Q,e,hg,ho,fun j _=>SameS.refl _⟩,hB1⟩
 case round =>
  obtain ⟨k,hk,rfl,HI,hB⟩:=hrel
  by_cases hkn:k < n
  · obtain ⟨g,Q1,rfl,hg,ho,hsm⟩:=HI.out (by omega)
    have c0:=(ho.cells k hkn).2.1
    have C2:Hid (Calls Tryz.prog 178 #[(Q1 k).v] wr _):=cloneFlds wr (Q1 k) (ho.flds k hkn).1 (ho.flds k hkn).2.2
    have HW:=hid ho
    have HS:=hid hsm
    have HG:=hid hg
    have hglt:g < wr.heap.size:=World.block_lt_of_cell? wr _ c0
    have HGL:=hid hglt
    clear ho hsm hg HI HO hglt
    go_wp2_with (first | (go_at_call 178;refine C2.out.mono ?_;rintro e w2 ⟨a2,cap2,rfl,hF2,hb2,hB2⟩;have c2:=((HW.out.later hB2).cells k hkn).2.1;have f2:=(HW.out.later hB2).frozen (k * 2+1);have HF2:=hid hF2;have HB2:=hid hb2;clear hF2 hb2))
    refine ⟨⟨k+1,hkn,by simp,fun _=>⟨g,_,rfl,HG.out,(HW.out.later hB2).set hkn HF2.out (fun h0 b o e=>by have:=HB2.out h0 b o e;have:=HGL.out;omega),fun j hj=>?_⟩,(hB.trans (hB2.mono hB.size)).setCell (p:=⟨g,k * 2+1,none⟩) HG.out _⟩,?_⟩
    · by_cases e:j=k
      · subst e
        simp only [if_pos]
        exact HS.out j hj
      · simp only [if_neg e]
        exact HS.out j hj
    · simp [intOf]
      omega
  · obtain rfl:k=n:=by omega
    go_wp2
    go_ret
    by_cases h0:0 < k
    · obtain ⟨g,Q1,rfl,hg,ho,hsm⟩:=HI.out h0
      exact ⟨_,_,Q1,rfl,ho.schs,hsm,hB⟩
    · exact ⟨_,_,Q,rfl,⟨fun h=>absurd h h0,fun j hj=>by omega⟩,fun j hj=>by omega,hB⟩
def allB (K:Nat→Int) (k:Int):Nat→Bool
 | 0=>true
 | n+1=>allB K k n && decide (K n=k)
theorem allB_yes {K:Nat→Int} {k:Int}:∀ {n:Nat},(∀ j,j < n→K j=k)→allB K k n=true
 | 0,_=>rfl
 | n+1,h=>by
   have h1:=allB_yes (K:=K) (k:=k) (n:=n) fun j hj=>h j (by omega)
   simp [allB,h1,h n (by omega)]
theorem allB_no {K:Nat→Int} {k:Int} {i:Nat} (hi:¬ K i=k):∀ {n:Nat},i < n→allB K k n=false
 | 0,h=>by omega
 | n+1,h=>by
   by_cases e:i=n
   · subst e;simp [allB,hi]
   · simp [allB,allB_no hi (show i < n by omega)]
theorem allB_or (K:Nat→Int) (k:Int):∀ n,(∀ j,j < n→K j=k) ∨ ∃ i,i < n∧¬ K i=k∧∀ j,j < i→K j=k
 | 0=>.inl fun j hj=>by omega
 | n+1=>by
   rcases allB_or K k n with h | ⟨i,h1,h2,h3⟩
   · by_cases e:K n=k
     · refine .inl fun j hj=>?_
       by_cases ej:j=n
       · exact ej ▸ e
       · exact h j (by omega)
     · exact .inr ⟨n,by omega,e,h⟩
   · exact .inr ⟨i,by omega,h2,h3⟩
def fineK (k:Int) (n:Nat) (K:Nat→Int):Bool :=
 if 3≤k∧k≤8 then allB K 2 n
 else if 9≤k∧k≤10 then decide (K 0=K 1) || (decide (K 0=0) || decide (K 1=0))
 else if 11≤k∧k≤14 then allB K 2 n || allB K 3 n
 else allB K 1 n
def outK (k:Int):Int:=if 3≤k∧k≤8 then 2 else 1
def kindE (L:ByteArray→ByteArray→Option Int):X→Int × Int
 | .nil=>(0,0)
 | .mk k v s f _ n _ c =>
   if lexN (fun i=>(kindE L (c i)).2) n=0 then
    (if k=1 then (v.k,0) else if k=2 then (match L s f with | some q=>(q,0) | none=>(0,6)) else if fineK k n (fun i=>(kindE L (c i)).1)=true then (outK k,0) else (0,5))
   else (0,lexN (fun i=>(kindE L (c i)).2) n)
theorem kindE_const {L:ByteArray→ByteArray→Option Int} {x:X} (h:x.k=1) (hn:x.n=0):kindE L x=(x.v.k,0):=by
 cases x with
 | nil=>simp [X.k] at h
 | mk k v s f a n cap c =>
   simp only [X.k,X.n,X.v] at h hn ⊢
   simp [kindE,hn,lexN,h]
theorem kindE_field {L:ByteArray→ByteArray→Option Int} {x:X} (h:x.k=2) (hn:x.n=0):kindE L x=(match L x.s x.f with | some q=>(q,0) | none=>(0,6)):=by
 cases x with
 | nil=>simp [X.k] at h
 | mk k v s f a n cap c =>
   simp only [X.k,X.n,X.s,X.f] at h hn ⊢
   simp [kindE,hn,lexN,h]
abbrev errsX (L:ByteArray→ByteArray→Option Int) (x:X) (n:Nat):Int:=lexN (fun i=>(kindE L (x.c i)).2) n
theorem kindE_parts {L:ByteArray→ByteArray→Option Int} {x:X} (h:3≤x.k) (he:errsX L x x.n=0):kindE L x=if fineK x.k x.n (fun i=>(kindE L (x.c i)).1)=true then (outK x.k,0) else (0,5):=by
 cases x with
 | nil=>simp [X.k] at h
 | mk k v s f a n cap c =>
   simp only [errsX,X.k,X.n,X.c] at h he ⊢
   simp only [kindE]
   rw [if_pos he,if_neg (by omega),if_neg (by omega)]
   rfl
theorem kindE_err {L:ByteArray→ByteArray→Option Int} {x:X} (h:3≤x.k) (he:¬ errsX L x x.n=0):kindE L x=(0,errsX L x x.n):=by
 cases x with
 | nil=>simp [X.k] at h
 | mk k v s f a n cap c =>
   simp only [errsX,X.k,X.n,X.c] at h he ⊢
   simp only [kindE]
   rw [if_neg he]
theorem errs_or (E:Nat→Int):∀ n,(lexN E n=0∧∀ j,j < n→E j=0) ∨ ∃ i,i < n∧¬ E i=0∧lexN E n=E i∧∀ j,j < i→E j=0
 | 0=>.inl ⟨rfl,fun j hj=>by omega⟩
 | n+1=>by
   rcases errs_or E n with ⟨h1,h2⟩ | ⟨i,h1,h2,h3,h4⟩
   · by_cases e:E n=0
     · refine .inl ⟨by simp [lexN,h1,e],fun j hj=>?_⟩
       by_cases ej:j=n
       · exact ej ▸ e
       · exact h2 j (by omega)
     · exact .inr ⟨n,by omega,e,by simp [lexN,h1],h2⟩
   · refine .inr ⟨i,by omega,h2,?_,h4⟩
     simp only [lexN]
     rw [h3,if_neg h2]
def IsI (w:World) (a:Option Addr) (n:Nat) (K:Nat→Int):Prop:=0 < n→∃ b o,a=some ⟨b,o,none⟩∧∀ j,j < n→w.cell? ⟨b,o+j,none⟩=some (.int .i64 (K j))
theorem IsI.later {w w':World} {a:Option Addr} {n:Nat} {K:Nat→Int} (h:IsI w a n K) (hB:Below w.heap.size w w'):IsI w' a n K:=fun h0=>by
 obtain ⟨b,o,e,hc⟩:=h h0
 exact ⟨b,o,e,fun j hj=>cell_later (hc j hj) hB⟩
def lookN (nv:Nat) (V T:Nat→ByteArray) (ns:Nat) (Q:Nat→Sch) (v f:ByteArray):Option Int :=
 match idx V v nv with
 | none=>none
 | some i=>match idx (fun j=>(Q j).nm) (T i) ns with
   | none=>none
   | some j=>match idx (Q j).fn f (Q j).l with
     | none=>none
     | some k=>some ((Q j).fk k)
def lackB (T:Nat→ByteArray) (ns:Nat) (Q:Nat→Sch):Nat→Bool
 | 0=>false
 | n+1=>lackB T ns Q n || (idx (fun j=>(Q j).nm) (T n) ns).isNone
def newZ (nv:Nat) (nt:Nat) (T:Nat→ByteArray) (ns:Nat) (Q:Nat→Sch):Int :=
 if bookZ ns Q=0∧nv=nt then (if lackB T ns Q nt=true then 6 else 0) else 1
theorem lackB_no {T:Nat→ByteArray} {ns:Nat} {Q:Nat→Sch}:∀ {n:Nat},lackB T ns Q n=false→∀ j,j < n→∃ i,idx (fun j=>(Q j).nm) (T j) ns=some i
 | 0,_,j,hj=>by omega
 | n+1,h,j,hj=>by
   simp only [lackB,Bool.or_eq_false_iff] at h
   by_cases e:j=n
   · subst e
     cases h2:idx (fun j=>(Q j).nm) (T j) ns with
     | none=>simp [h2] at h
     | some i=>exact ⟨i,rfl⟩
   · exact lackB_no h.1 j (by omega)
theorem lackB_at {T:Nat→ByteArray} {ns:Nat} {Q:Nat→Sch} {j:Nat} (hj:idx (fun j=>(Q j).nm) (T j) ns=none):∀ {n:Nat},j < n→lackB T ns Q n=true
 | 0,h=>by omega
 | n+1,h=>by
   simp only [lackB]
   by_cases e:j=n
   · subst e;simp [hj]
   · simp [lackB_at hj (show j < n by omega)]
def rowI (K:Nat→Int):Nat→List Value
 | 0=>[]
 | n+1=>rowI K n ++ [.int .i64 (K n)]
theorem rowI_len (K:Nat→Int):∀ n,(rowI K n).length=n
 | 0=>rfl
 | n+1=>by simp [rowI,rowI_len K n]
theorem rowI_get (K:Nat→Int):∀ n i,i < n→(rowI K n)[i]? = some (.int .i64 (K i))
 | 0,_,h=>by omega
 | n+1,i,h=>by
   rw [rowI]
   by_cases e:i=n
   · subst e
     rw [List.getElem?_append_right (by rw [rowI_len];omega),rowI_len]
     simp
   · rw [List.getElem?_append_left (by rw [rowI_len];omega)]
     exact rowI_get K n i (by omega)
theorem infoInt:(Tryz.prog.info? 3).map (fun i=>(i.zero,i.size,i.bytes))=some (some (.int .i64 0),1,8):=by kernel_rfl
theorem push_int {w:World} {base n:Nat} {v:Value} {xs:List Value} (h:w.ownsRow base 3 1 v n xs) (hb:base≤w.heap.size) (hn:n≤2097152) (k:Int) :
 ∃ v' w',(Builtin.append_ #[39,39] 39 #[v,.slice (some ⟨w.heap.size,0,none⟩) 1 1]).run Tryz.prog (w.alloc (.cells #[.int .i64 k] 3))=.ok v' w'∧w'.ownsRow base 3 1 v' (n+1) (xs ++ [.int .i64 k])∧Below base w w':=by
 obtain ⟨i0,hi,hz0,hz1,hz2⟩:=info_parts infoInt
 obtain ⟨v',w',hrun,hown',hgrow,_⟩:=run_append_own (P:=Tryz.prog) (w:=w.alloc (.cells #[.int .i64 k] 3)) base 39 39 3 i0 (.int .i64 0) 1 8 Tryz.underlying39 hi hz0 hz1 hz2 rfl (by decide) v _ _ (h.alloc _) ⟨w.heap.size,0,none⟩ 1 1 [.int .i64 k] rfl
  (cell_one_new w (.int .i64 k) 3) (by simp [Value.oneCell']) (by unfold maxLen;omega) (by omega) (by simp;omega)
 exact ⟨v',w',hrun,hown',((Below.refl base w).alloc hb _).grown hgrow (by simp;omega) fun k e=>(h.lt k e).1⟩
theorem own_isI {w:World} {base n:Nat} {v:Value} {K:Nat→Int} (h:w.ownsRow base 3 1 v n (rowI K n)):∃ a cap,v=.slice a n cap∧IsI w a n K∧n≤cap:=by
 rcases h.2 with ⟨rfl,rfl⟩ | ⟨g,cap,cur,rfl,hg,hc,hnc,hcm,hs,ht⟩
 · exact ⟨none,0,rfl,fun h=>by omega,Nat.le_refl _⟩
 · refine ⟨_,cap,rfl,fun _=>⟨g,0,rfl,fun j hj=>?_⟩,hnc⟩
   rw [← rowI_get K n j hj,← ht,List.getElem?_take_of_lt (by omega)]
   simp only [World.cell?,hc,Nat.zero_add]
   rw [Array.getElem?_toList]
   rfl
theorem own_still {w w':World} {B e size n:Nat} {v:Value} {xs:List Value} (h:w.ownsRow B e size v n xs) (hb:Below w.heap.size w w'):w'.ownsRow B e size v n xs :=
 h.kept (row:=none) ⟨hb.os,hb.tape,hb.output,hb.size,fun k hk _=>hb.block k hk⟩ (Classical.em _)
open Go.Extern.Stop Go.Stop Go.Extern
abbrev senV (a:Addr):Value:=.iface 287 (.pointer (some a))
inductive Why where
 | base (a:Addr):Why
 | part (i:Int) (y:Why):Why
def Why.val:Why→Value
 | .base a=>senV a
 | .part i y=>.iface 276 (.agg #[.int .i64 i,y.val])
def Why.root:Why→Addr
 | .base a=>a
 | .part _ y=>y.root
theorem Tryz.isTypeOf (v:Value) (w:World):(Extern.ReflectliteType.typeOf #[.iface 287 v]).run Tryz.prog w=.ok (.iface 182 (.agg #[.pointer (some ⟨3,287,none⟩)])) w:=by kernel_rfl
theorem Tryz.isComparable (w:World):(callFunc 249 #[.agg #[.pointer (some ⟨3,287,none⟩)]]).run Tryz.prog w=.ok (.value (.bool true)) w:=by
 rw [@run_callFunc_extern Tryz.prog 249 _ (Extern.ReflectliteType.method fun t => do Go.Extern.Rtype.noPackHeld "Comparable" t; pure (.bool (← typeInfo t).comparable)) Tryz.func249 (by kernel_rfl) (by kernel_rfl) (by kernel_rfl) (by kernel_rfl)]
 kernel_rfl
theorem Tryz.isMethodComparable (v : Value) (w : World) : (Go.method 419 182 v "Comparable").run Tryz.prog w = .ok (249, v) w := by kernel_rfl
theorem Tryz.isComp:(Tryz.prog.info? 287).map (·.comparable)=some true:=by kernel_rfl
theorem Tryz.isSize:(Tryz.prog.info? 308).map (·.size)=some 1:=by kernel_rfl
theorem Tryz.noIsE (v:Value) (xT:TypeId) (w:World):(Instr.typeAssert (.iface 287 v) xT 282 true).run Tryz.prog w=.ok (.tuple #[.nilIface,.bool false]) w:=run_typeAssert_lacksB Tryz.underlying282 (by kernel_rfl) (by kernel_rfl) v xT w
theorem Tryz.noUnwrapE (v:Value) (xT:TypeId) (w:World):(Instr.typeAssert (.iface 287 v) xT 190 true).run Tryz.prog w=.ok (.tuple #[.nilIface,.bool false]) w:=run_typeAssert_lacksB Tryz.underlying190 (by kernel_rfl) (by kernel_rfl) v xT w
theorem Tryz.noUnwrapsE (v:Value) (xT:TypeId) (w:World):(Instr.typeAssert (.iface 287 v) xT 191 true).run Tryz.prog w=.ok (.tuple #[.nilIface,.bool false]) w:=run_typeAssert_lacksB Tryz.underlying191 (by kernel_rfl) (by kernel_rfl) v xT w
theorem Tryz.noIsW (v:Value) (xT:TypeId) (w:World):(Instr.typeAssert (.iface 276 v) xT 282 true).run Tryz.prog w=.ok (.tuple #[.nilIface,.bool false]) w:=run_typeAssert_lacksB Tryz.underlying282 (by kernel_rfl) (by kernel_rfl) v xT w
theorem Tryz.hasUnwrapW (v:Value) (xT:TypeId) (w:World):(Instr.typeAssert (.iface 276 v) xT 190 true).run Tryz.prog w=.ok (.tuple #[.iface 276 v,.bool true]) w:=run_typeAssert_hasB Tryz.underlying190 (by kernel_rfl) v xT w
theorem Tryz.methodUnwrap (v : Value) (w : World) : (Go.method 419 276 v "Unwrap").run Tryz.prog w = .ok (261, v) w := by kernel_rfl
theorem unwrap_any (i:Int) (v:Value) (w:World):Calls Tryz.prog 261 #[.agg #[.int .i64 i,v]] w (RV v w):=by
 go_enter Tryz.func261,Tryz.ntmps261
 go_wp2
 exact bodyPost_ret (v:=v) (by simp [results,Tryz.results261,go_sem]) rfl ⟨rfl,nwB _ _⟩
theorem is_loop (y:Why) (b:Addr) (w:World) {ca cb:Array Value} {ta tb:TypeId} (ha:w.heap[y.root.block]? = some (.cells ca ta (0,0))) (hb:w.heap[b.block]? = some (.cells cb tb (0,0))) :
 Calls Tryz.prog 216 #[y.val,senV b,.bool true] w (RV (.bool (decide (y.root=b))) w):=by
 obtain ⟨i,hi,hcmp⟩:=Option.map_eq_some_iff.1 Tryz.isComp
 obtain ⟨j,hj,hjs⟩:=Option.map_eq_some_iff.1 Tryz.isSize
 have nE:=Tryz.noIsE
 have uE:=Tryz.noUnwrapE
 have vE:=Tryz.noUnwrapsE
 have nW:=Tryz.noIsW
 have uW:=Tryz.hasUnwrapW
 have mU:=Tryz.methodUnwrap
 have HA:=hid ha
 have HB:=hid hb
 have HI:Hid (_∧_∧_∧_):=And.intro hi (And.intro hcmp (And.intro hj hjs))
 clear ha hb hi hcmp hj hjs
 go_enter Tryz.func216,Tryz.ntmps216
 go_wp2
 go_loopw [0] (fun u wr=>∃ x:Why,u=x.val∧x.root=y.root∧Below w.heap.size w wr) (fun u _=>SizeOf.sizeOf u)
 case atStart=>exact ⟨y,rfl,rfl,Below.refl _ _⟩
 case round =>
  obtain ⟨x,rfl,hr,hB⟩:=hrel
  have hA:=(hB.block _ (Array.getElem?_eq_some_iff.1 HA.out).1).trans HA.out
  have hBb:=(hB.block _ (Array.getElem?_eq_some_iff.1 HB.out).1).trans HB.out
  rw [← hr] at hA
  have HR:=hid hr
  clear hr
  obtain ⟨hi,hcmp,hj,hjs⟩:=HI.out
  cases x with
  | base a =>
    have hA:wr.heap[a.block]? = _:=hA
    by_cases e:a=b
    · subst e
      have heq:=run_eql_iface_ptr_same (P:=Tryz.prog) wr a Tryz.underlying66 Tryz.underlying287 hi hcmp hj
      clear hA hBb hi hcmp hj hjs
      simp only [Why.val]
      go_wp2
      go_ret
      exact ⟨by rw [← HR.out];simp [Why.root],hB⟩
    · have heq:=run_eql_iface_ptr_other (P:=Tryz.prog) wr Tryz.underlying66 Tryz.underlying287 hi hcmp hj (by rw [hjs];decide) e hA hBb
      have HE:=hid e
      clear hA hBb hi hcmp hj hjs e
      simp only [Why.val]
      go_wp2
      go_ret
      exact ⟨by rw [← HR.out];simp [Why.root,HE.out],hB⟩
  | part i1 x =>
    have hty:=run_eql_iface_types (P:=Tryz.prog) 276 287 (.agg #[.int .i64 i1,x.val]) (.pointer (some b)) Tryz.underlying66 (by decide) wr
    clear hA hBb hi hcmp hj hjs
    cases x with
    | base a1 =>
      simp only [Why.val] at hty ⊢
      go_wp2_with (first | (go_at_call 261;refine (unwrap_any i1 (senV a1) _).mono ?_;rintro e w2 ⟨rfl,hB2⟩))
      go_roundw
      case rel=>exact ⟨.base a1,rfl,HR.out,hB.trans (hB2.mono hB.size)⟩
      case measure=>simp;omega
    | part i2 x =>
      simp only [Why.val] at hty ⊢
      go_wp2_with (first | (go_at_call 261;refine (unwrap_any i1 (.iface 276 (.agg #[.int .i64 i2,x.val])) _).mono ?_;rintro e w2 ⟨rfl,hB2⟩))
      go_roundw
      case rel=>exact ⟨.part i2 x,rfl,HR.out,hB.trans (hB2.mono hB.size)⟩
      case measure=>simp;omega
theorem is_any (y:Why) (b:Addr) (w:World) {ca cb:Array Value} {ta tb:TypeId} (ha:w.heap[y.root.block]? = some (.cells ca ta (0,0))) (hb:w.heap[b.block]? = some (.cells cb tb (0,0))) :
 Calls Tryz.prog 207 #[y.val,senV b] w (RV (.bool (decide (y.root=b))) w):=by
 have h8:=@run_callFunc_extern Tryz.prog 123 _ Extern.ReflectliteType.typeOf Tryz.func123 (by kernel_rfl) (by kernel_rfl) (by kernel_rfl) (by kernel_rfl)
 have tT:=Tryz.isTypeOf
 have cT:=Tryz.isComparable
 have mR:=Tryz.isMethodComparable
 have C:Hid (Calls Tryz.prog 216 _ w _):=is_loop y b w ha hb
 clear ha hb
 cases y with
 | base a1 =>
   simp only [Why.val] at C ⊢
   go_enter Tryz.func207,Tryz.ntmps207
   go_wp2_with (first | (go_at_call 216;refine C.out.mono ?_;rintro e w2 ⟨rfl,hB2⟩))
   go_ret
   exact ⟨rfl,hB2⟩
 | part i1 x =>
   simp only [Why.val] at C ⊢
   go_enter Tryz.func207,Tryz.ntmps207
   go_wp2_with (first | (go_at_call 216;refine C.out.mono ?_;rintro e w2 ⟨rfl,hB2⟩))
   go_ret
   exact ⟨rfl,hB2⟩
theorem is_nil (b:Addr) (w:World):Calls Tryz.prog 207 #[.nilIface,senV b] w fun e w'=>e=.returned (.bool false)∧w'=w:=by
 have hn:=run_eql_iface_nil_left (P:=Tryz.prog) w 287 (.pointer (some b)) Tryz.underlying66
 go_enter Tryz.func207,Tryz.ntmps207
 go_wp2
 go_ret
 exact ⟨rfl,rfl⟩
structure Sens (w:World) (N T:Addr):Prop where
 vN:w.cell? ⟨2,0,none⟩=some (senV N)
 vT:w.cell? ⟨1,0,none⟩=some (senV T)
 bN:∃ c t,w.heap[N.block]? = some (.cells c t (0,0))
 bT:∃ c t,w.heap[T.block]? = some (.cells c t (0,0))
 ne:N ≠ T
theorem Sens.later {w w':World} {N T:Addr} (h:Sens w N T) (hB:Below w.heap.size w w'):Sens w' N T:=by
 refine ⟨cell_later h.vN hB,cell_later h.vT hB,?_,?_,h.ne⟩
 · obtain ⟨c,t,e⟩:=h.bN
   exact ⟨c,t,(hB.block _ (Array.getElem?_eq_some_iff.1 e).1).trans e⟩
 · obtain ⟨c,t,e⟩:=h.bT
   exact ⟨c,t,(hB.block _ (Array.getElem?_eq_some_iff.1 e).1).trans e⟩
def ErrIs (N T:Addr) (e:Int) (v:Value):Prop :=
 (e=0∧v=.nilIface) ∨ (e=6∧∃ y:Why,y.root=N∧v=y.val) ∨ (e=5∧∃ y:Why,y.root=T∧v=y.val)
theorem ErrIs.nil {N T:Addr} {e:Int} {v:Value} (h:ErrIs N T e v) (h0:e=0):v=.nilIface:=by
 rcases h with ⟨_,h⟩ | ⟨h,_⟩ | ⟨h,_⟩
 · exact h
 · omega
 · omega
theorem ErrIs.some {N T:Addr} {e:Int} {v:Value} (h:ErrIs N T e v) (h0:¬ e=0):∃ t u,v=.iface t u:=by
 have key:∀ y:Why,∃ t u,y.val=.iface t u:=fun y=>by cases y <;> exact ⟨_,_,rfl⟩
 rcases h with ⟨h,_⟩ | ⟨_,y,_,rfl⟩ | ⟨_,y,_,rfl⟩
 · exact absurd h h0
 · exact key y
 · exact key y
theorem ErrIs.part {N T:Addr} {e:Int} {v:Value} (h:ErrIs N T e v) (h0:¬ e=0) (i:Int):ErrIs N T e (.iface 276 (.agg #[.int .i64 i,v])):=by
 rcases h with ⟨h,_⟩ | ⟨h,y,hr,rfl⟩ | ⟨h,y,hr,rfl⟩
 · exact absurd h h0
 · exact .inr (.inl ⟨h,.part i y,hr,rfl⟩)
 · exact .inr (.inr ⟨h,.part i y,hr,rfl⟩)
theorem errno_any (N T:Addr) (e:Int) (v:Value) (w:World) (hS:Sens w N T) (h:ErrIs N T e v):Calls Tryz.prog 185 #[v] w fun r w'=>r=.returned (.int .i64 e)∧Below w.heap.size w w':=by
 have HS:=hid hS
 have gN:=hS.vN
 have gT:=hS.vT
 rcases h with ⟨rfl,rfl⟩ | ⟨rfl,y,hr,rfl⟩ | ⟨rfl,y,hr,rfl⟩
 · clear hS
   go_enter Tryz.func185,Tryz.ntmps185
   go_wp2_with (first | (go_at_call 207;refine (is_nil _ _).mono ?_;rintro e w2 ⟨rfl,rfl⟩))
   go_ret
   exact ⟨rfl,Below.refl _ _⟩
 · obtain ⟨c1,t1,b1⟩:=hS.bN
   have C:Hid (Calls Tryz.prog 207 #[y.val,senV N] w (RV (.bool true) w)):=by
    show Calls _ _ _ _ _
    have:=is_any y N w (by rw [hr];exact b1) b1
    simpa [hr] using this
   have HR:=hid hr
   clear hr b1 hS
   obtain ⟨v,hv⟩:∃ v,v=y.val:=⟨_,rfl⟩
   rw [← hv] at C ⊢
   clear hv
   go_enter Tryz.func185,Tryz.ntmps185
   go_wp2_with (first | (go_at_call 207;refine C.out.mono ?_;rintro e w2 ⟨rfl,hB2⟩))
   go_ret
   exact ⟨rfl,hB2⟩
 · obtain ⟨c1,t1,b1⟩:=hS.bN
   obtain ⟨c2,t2,b2⟩:=hS.bT
   have C:Hid (Calls Tryz.prog 207 #[y.val,senV N] w (RV (.bool false) w)):=by
    show Calls _ _ _ _ _
    have:=is_any y N w (by rw [hr];exact b2) b1
    simpa [hr,hS.ne.symm] using this
   have C2:Hid (∀ d,Below w.heap.size w d→Calls Tryz.prog 207 #[y.val,senV T] d (RV (.bool true) d)):=fun d hd=>by
    obtain ⟨c2,t2,b2⟩:=(HS.out.later hd).bT
    have:=is_any y T d (by rw [hr];exact b2) b2
    simpa [hr] using this
   clear hr b1 b2 hS
   obtain ⟨v,hv⟩:∃ v,v=y.val:=⟨_,rfl⟩
   rw [← hv] at C C2 ⊢
   clear hv
   go_enter Tryz.func185,Tryz.ntmps185
   go_wp2_with (first
    | (go_at_call 207;refine (C2.out _ hB2).mono ?_;rintro e w3 ⟨rfl,hB3⟩)
    | (go_at_call 207;refine C.out.mono ?_;rintro e w2 ⟨rfl,hB2⟩;have gT2:=cell_later gT hB2))
   go_ret
   exact ⟨rfl,hB2.trans (hB3.mono hB2.size)⟩
def KindC (nv:Value) (N T:Addr) (x:X) (K E:Int) (d:World):Prop :=
 Calls Tryz.prog 184 #[nv,x.val] d fun e w'=>∃ v,e=.returned (.tuple #[.int .i64 K,v])∧ErrIs N T E v∧Below d.heap.size d w'
theorem parts_ok (nv:Value) (N T:Addr) (x:X) (K E:Nat→Int) (w:World) (hX:IsX w x) (hn:x.n≤1048576) (HK:∀ i,i < x.n→∀ d,Below w.heap.size w d→KindC nv N T (x.c i) (K i) (E i) d) (h0:∀ i,i < x.n→E i=0) :
 Calls Tryz.prog 205 #[nv,x.slice] w fun e w'=>∃ a cap,e=.returned (.tuple #[.slice a x.n cap,.nilIface])∧IsI w' a x.n K∧Below w.heap.size w w':=by
 have HX:=hid hX
 have HC:=hid HK
 have H0:=hid h0
 clear hX HK h0
 go_enter Tryz.func205,Tryz.ntmps205
 go_wp2
 go_loopw [6,13] (fun u iv wr=>∃ k:Nat,k≤x.n∧iv=.int .i64 k∧Hid (wr.ownsRow w.heap.size 3 1 u k (rowI K k))∧Below w.heap.size w wr) (fun _ iv _=>x.n - (intOf iv).toNat)
 case atStart=>exact ⟨0,Nat.zero_le _,rfl,World.ownsRow_nil _ _ _ _,Below.refl _ _⟩
 case round =>
  obtain ⟨k,hk,rfl,HO,hB⟩:=hrel
  by_cases hkn:k < x.n
  · obtain ⟨b,o,ha,hN,hx⟩:=(HX.out.later hB).part hkn
    obtain ⟨d0,d1,d2,d3,d4,d5,d6⟩:=hN
    have C:Hid (∀ d,Below w.heap.size w d→KindC nv N T (x.c k) (K k) (E k) d):=HC.out k hkn
    have E0:Hid (E k=0):=H0.out k hkn
    have ha':x.slice=.slice (some ⟨b,o,none⟩) x.n x.cap:=by rw [← ha]
    have HX1:=hid hkn
    obtain ⟨y,hy⟩:∃ y,y=x.c k:=⟨_,rfl⟩
    rw [← hy] at d0 d1 d2 d3 d4 d5 d6 C
    rw [ha']
    have hnz:k≤2097152:=by omega
    clear ha ha' hx hy
    go_wp2_with (first
     | (at_builtin;obtain ⟨v3,w3,r3,o3,b3⟩:=push_int HO2.out hB3.size hnz (K k);refine wpList_append_run rfl (.tmp 30) (.tmp 32) 39 rfl _ _ _ rfl rfl r3 ?_)
     | (go_at_call 184;refine (C.out _ (hB.alloc hB.size _)).mono ?_;rintro e w2 ⟨v,rfl,he,hB2⟩;obtain rfl:v=.nilIface:=he.nil E0.out;have HO2:Hid (w2.ownsRow w.heap.size 3 1 _ k (rowI K k)):=own_still (HO.out.alloc _) hB2;have hB3:Below w.heap.size w w2:=(hB.alloc hB.size _).trans (hB2.mono (by have:=hB.size;simp;omega));clear he))
    refine ⟨⟨k+1,HX1.out,by simp,o3,hB3.trans b3⟩,?_⟩
    have:=HX1.out
    simp [intOf]
    omega
  · obtain rfl:k=x.n:=by omega
    obtain ⟨a,cap,rfl,hI,hle⟩:=own_isI HO.out
    have HI:=hid hI
    clear hI
    go_wp2
    exact bodyPost_ret (v:=.tuple #[.slice a x.n cap,.nilIface]) (by simp [results,Tryz.results205,go_sem]) rfl ⟨a,cap,rfl,HI.out,hB⟩
theorem parts_err (nv:Value) (N T:Addr) (x:X) (K E:Nat→Int) (i:Nat) (w:World) (hX:IsX w x) (hn:x.n≤1048576) (HK:∀ i,i < x.n→∀ d,Below w.heap.size w d→KindC nv N T (x.c i) (K i) (E i) d) (hi:i < x.n) (he:¬ E i=0) (h0:∀ j,j < i→E j=0) :
 Calls Tryz.prog 205 #[nv,x.slice] w fun e w'=>∃ v,e=.returned (.tuple #[.slice none 0 0,v])∧ErrIs N T (E i) v∧Below w.heap.size w w':=by
 have HX:=hid hX
 have HC:=hid HK
 have H0:=hid h0
 have HE:=hid he
 have HI:=hid hi
 clear hX HK h0 he
 go_enter Tryz.func205,Tryz.ntmps205
 go_wp2
 go_loopw [6,13] (fun u iv wr=>∃ k:Nat,k≤i∧iv=.int .i64 k∧Hid (wr.ownsRow w.heap.size 3 1 u k (rowI K k))∧Below w.heap.size w wr) (fun _ iv _=>i - (intOf iv).toNat)
 case atStart=>exact ⟨0,Nat.zero_le _,rfl,World.ownsRow_nil _ _ _ _,Below.refl _ _⟩
 case round =>
  obtain ⟨k,hk,rfl,HO,hB⟩:=hrel
  have hkn:k < x.n:=by omega
  obtain ⟨b,o,ha,hN,hx⟩:=(HX.out.later hB).part hkn
  obtain ⟨d0,d1,d2,d3,d4,d5,d6⟩:=hN
  have C:Hid (∀ d,Below w.heap.size w d→KindC nv N T (x.c k) (K k) (E k) d):=HC.out k hkn
  have ha':x.slice=.slice (some ⟨b,o,none⟩) x.n x.cap:=by rw [← ha]
  obtain ⟨y,hy⟩:∃ y,y=x.c k:=⟨_,rfl⟩
  rw [← hy] at d0 d1 d2 d3 d4 d5 d6 C
  rw [ha']
  have hnz:k≤2097152:=by omega
  clear ha ha' hx hy
  by_cases hki:k=i
  · subst hki
    go_wp2_with (first
     | (go_at_call 184;refine (C.out _ (hB.alloc hB.size _)).mono ?_;rintro e w2 ⟨v,rfl,he,hB2⟩;have HV:=hid he;obtain ⟨t1,u1,rfl⟩:=he.some HE.out;have hB3:Below w.heap.size w w2:=(hB.alloc hB.size _).trans (hB2.mono (by have:=hB.size;simp;omega));clear he))
    exact bodyPost_ret (v:=.tuple #[.slice none 0 0,.iface 276 (.agg #[.int .i64 (k:Nat),.iface t1 u1])]) (by simp [results,Tryz.results205,go_sem]) rfl ⟨_,rfl,HV.out.part HE.out k,hB3⟩
  · have E0:Hid (E k=0):=H0.out k (by omega)
    have HX1:Hid (k+1≤i):=by show k+1≤i;omega
    go_wp2_with (first
     | (at_builtin;obtain ⟨v3,w3,r3,o3,b3⟩:=push_int HO2.out hB3.size hnz (K k);refine wpList_append_run rfl (.tmp 30) (.tmp 32) 39 rfl _ _ _ rfl rfl r3 ?_)
     | (go_at_call 184;refine (C.out _ (hB.alloc hB.size _)).mono ?_;rintro e w2 ⟨v,rfl,he,hB2⟩;obtain rfl:v=.nilIface:=he.nil E0.out;have HO2:Hid (w2.ownsRow w.heap.size 3 1 _ k (rowI K k)):=own_still (HO.out.alloc _) hB2;have hB3:Below w.heap.size w w2:=(hB.alloc hB.size _).trans (hB2.mono (by have:=hB.size;simp;omega));clear he))
    refine ⟨⟨k+1,HX1.out,by simp,o3,hB3.trans b3⟩,?_⟩
    have:=HX1.out
    simp [intOf]
    omega
theorem all11_any (q k:Int) (p:Nat) (w:World) (hp:w.cell? ⟨p,0,none⟩=some (.int .i64 k)):Calls Tryz.prog 222 #[.int .i64 q,.pointer (some ⟨p,0,none⟩)] w fun e w'=>e=.returned (.bool (!decide (q=k)))∧w'=w:=by
 by_cases e:q=k
 · subst e
   go_enter Tryz.func222,Tryz.ntmps222
   go_wp2
   go_ret
   exact ⟨by simp,rfl⟩
 · have e2:(q != k)=true:=by simp [e]
   go_enter Tryz.func222,Tryz.ntmps222
   go_wp2
   go_ret
   exact ⟨by simp [e],rfl⟩
theorem indexI_some (a:Option Addr) (n cap i p:Nat) (K:Nat→Int) (k0:Int) (w:World) (H:IsI w a n K) (hn:n≤1048576) (hp:w.cell? ⟨p,0,none⟩=some (.int .i64 k0)) (hi:i < n) (he:¬ K i=k0) (hl:∀ j,j < i→K j=k0) :
 Calls Tryz.prog 224 #[.slice a n cap,.func (.func 222) #[] #[.pointer (some ⟨p,0,none⟩)]] w fun e w'=>e=.returned (.int .i64 i)∧w'=w:=by
 obtain ⟨b,off,rfl,hc⟩:=H (by omega)
 have HC:=hid hc
 have HE:=hid he
 have HL:=hid hl
 have HP:=hid hp
 clear H hc he hl hp
 go_enter Tryz.func224,Tryz.ntmps224
 go_wp2
 go_loopw [8] (fun v wr=>∃ k:Nat,k≤i∧v=.int .i64 k∧wr=w) (fun v _=>i - (intOf v).toNat)
 case atStart=>exact ⟨0,Nat.zero_le _,rfl,rfl⟩
 case round =>
  obtain ⟨k,hk,rfl,rfl⟩:=hrel
  have hkn:k < n:=by omega
  have f0:=HC.out k hkn
  have C:Hid (Calls Tryz.prog 222 _ wr _):=all11_any (K k) k0 p wr HP.out
  by_cases hki:k=i
  · subst hki
    rw [decide_eq_false HE.out] at C
    go_wp2_with (first | (go_at_call 222;refine C.out.mono ?_;rintro e w1 ⟨rfl,rfl⟩))
    try rw [Exit.noGoto_ret]
    go_ret
    exact ⟨rfl,rfl⟩
  · rw [decide_eq_true (HL.out k (by omega))] at C
    go_wp2_with (first | (go_at_call 222;refine C.out.mono ?_;rintro e w1 ⟨rfl,rfl⟩))
    go_roundw
    case rel=>exact ⟨k+1,by omega,by go_num,by first | rfl | trivial⟩
    case measure=>simp [intOf];omega
theorem indexI_none (a:Option Addr) (n cap p:Nat) (K:Nat→Int) (k0:Int) (w:World) (H:IsI w a n K) (hn:n≤1048576) (hp:w.cell? ⟨p,0,none⟩=some (.int .i64 k0)) (hl:∀ j,j < n→K j=k0) :
 Calls Tryz.prog 224 #[.slice a n cap,.func (.func 222) #[] #[.pointer (some ⟨p,0,none⟩)]] w fun e w'=>e=.returned (.int .i64 (-1))∧w'=w:=by
 have HC:=hid H
 have HL:=hid hl
 have HP:=hid hp
 clear H hl hp
 go_enter Tryz.func224,Tryz.ntmps224
 go_wp2
 go_loopw [8] (fun v wr=>∃ k:Nat,k≤n∧v=.int .i64 k∧wr=w) (fun v _=>n - (intOf v).toNat)
 case atStart=>exact ⟨0,Nat.zero_le _,rfl,rfl⟩
 case round =>
  obtain ⟨k,hk,rfl,rfl⟩:=hrel
  by_cases hkn:k < n
  · obtain ⟨b,off,rfl,hc⟩:=HC.out (by omega)
    have f0:=hc k hkn
    have C:Hid (Calls Tryz.prog 222 _ wr _):=all11_any (K k) k0 p wr HP.out
    rw [decide_eq_true (HL.out k hkn)] at C
    clear hc
    go_wp2_with (first | (go_at_call 222;refine C.out.mono ?_;rintro e w1 ⟨rfl,rfl⟩))
    go_roundw
    case rel=>exact ⟨k+1,by omega,by go_num,by first | rfl | trivial⟩
    case measure=>simp [intOf];omega
  · go_wp2
    go_ret
    exact ⟨rfl,rfl⟩
theorem otherI_any (a:Option Addr) (n cap p:Nat) (K:Nat→Int) (k0:Int) (w:World) (H:IsI w a n K) (hn:n≤1048576) (hp:w.cell? ⟨p,0,none⟩=some (.int .i64 k0)) :
 Calls Tryz.prog 221 #[.slice a n cap,.func (.func 222) #[] #[.pointer (some ⟨p,0,none⟩)]] w fun e w'=>e=.returned (.bool (!allB K k0 n))∧w'=w:=by
 rcases allB_or K k0 n with h | ⟨i,h1,h2,h3⟩
 · rw [allB_yes h]
   have C:Hid (Calls Tryz.prog 224 _ w _):=indexI_none a n cap p K k0 w H hn hp h
   clear H hn hp h
   go_enter Tryz.func221,Tryz.ntmps221
   go_wp2_with (first | (go_at_call 224;refine C.out.mono ?_;rintro e w1 ⟨rfl,rfl⟩))
   go_ret
   exact ⟨rfl,rfl⟩
 · rw [allB_no h2 h1]
   have C:Hid (Calls Tryz.prog 224 _ w _):=indexI_some a n cap i p K k0 w H hn hp h1 h2 h3
   have h0:(0:Int)≤i:=by omega
   clear H hn hp h1 h2 h3
   go_enter Tryz.func221,Tryz.ntmps221
   go_wp2_with (first | (go_at_call 224;refine C.out.mono ?_;rintro e w1 ⟨rfl,rfl⟩))
   go_ret
   exact ⟨by simp,rfl⟩
theorem all1_any (a:Option Addr) (n cap p:Nat) (K:Nat→Int) (k0:Int) (w:World) (H:IsI w a n K) (hn:n≤1048576) (hp:w.cell? ⟨p,0,none⟩=some (.int .i64 k0)) :
 Calls Tryz.prog 220 #[.slice a n cap,.pointer (some ⟨p,0,none⟩)] w fun e w'=>e=.returned (.bool (allB K k0 n))∧w'=w:=by
 have C:Hid (Calls Tryz.prog 221 _ w _):=otherI_any a n cap p K k0 w H hn hp
 clear H hn hp
 generalize allB K k0 n=r at C ⊢
 cases r
 · go_enter Tryz.func220,Tryz.ntmps220
   go_wp2_with (first | (go_at_call 221;refine C.out.mono ?_;rintro e w1 ⟨rfl,rfl⟩))
   go_ret
   exact ⟨rfl,rfl⟩
 · go_enter Tryz.func220,Tryz.ntmps220
   go_wp2_with (first | (go_at_call 221;refine C.out.mono ?_;rintro e w1 ⟨rfl,rfl⟩))
   go_ret
   exact ⟨rfl,rfl⟩
theorem allT_any (k0:Int) (w:World):Calls Tryz.prog 213 #[.int .i64 k0] w fun e w'=>e=.returned (.func (.func 220) #[] #[.pointer (some ⟨w.heap.size,0,none⟩)])∧w'=w.alloc (.cells #[.int .i64 k0] 3):=by
 go_enter Tryz.func213,Tryz.ntmps213
 go_wp2
 go_ret
 exact ⟨rfl,rfl⟩
theorem box_at (w:World) (k0:Int):(w.alloc (.cells #[.int .i64 k0] 3)).cell? ⟨w.heap.size,0,none⟩=some (.int .i64 k0):=by rw [World.cell?_alloc_at _ _ _ _ rfl];rfl
theorem hasI_some (a:Option Addr) (n cap i:Nat) (K:Nat→Int) (k0:Int) (w:World) (H:IsI w a n K) (hn:n≤1048576) (hi:i < n) (he:K i=k0) (hl:∀ j,j < i→¬ K j=k0) :
 Calls Tryz.prog 225 #[.slice a n cap,.int .i64 k0] w fun e w'=>e=.returned (.int .i64 i)∧w'=w:=by
 obtain ⟨b,off,rfl,hc⟩:=H (by omega)
 have HC:=hid hc
 have HE:=hid he
 have HL:=hid hl
 clear H hc he hl
 go_enter Tryz.func225,Tryz.ntmps225
 go_wp2
 go_loopw [8] (fun v wr=>∃ k:Nat,k≤i∧v=.int .i64 k∧wr=w) (fun v _=>i - (intOf v).toNat)
 case atStart=>exact ⟨0,Nat.zero_le _,rfl,rfl⟩
 case round =>
  obtain ⟨k,hk,rfl,rfl⟩:=hrel
  have hkn:k < n:=by omega
  have f0:=HC.out k hkn
  by_cases hki:k=i
  · subst hki
    rw [HE.out] at f0
    go_wp2
    try rw [Exit.noGoto_ret]
    go_ret
    exact ⟨rfl,rfl⟩
  · have h1:¬ k0=K k:=fun h=>HL.out k (by omega) h.symm
    go_wp2
    go_roundw
    case rel=>exact ⟨k+1,by omega,by go_num,by first | rfl | trivial⟩
    case measure=>simp [intOf];omega
theorem hasI_none (a:Option Addr) (n cap:Nat) (K:Nat→Int) (k0:Int) (w:World) (H:IsI w a n K) (hn:n≤1048576) (hl:∀ j,j < n→¬ K j=k0) :
 Calls Tryz.prog 225 #[.slice a n cap,.int .i64 k0] w fun e w'=>e=.returned (.int .i64 (-1))∧w'=w:=by
 have HC:=hid H
 have HL:=hid hl
 clear H hl
 go_enter Tryz.func225,Tryz.ntmps225
 go_wp2
 go_loopw [8] (fun v wr=>∃ k:Nat,k≤n∧v=.int .i64 k∧wr=w) (fun v _=>n - (intOf v).toNat)
 case atStart=>exact ⟨0,Nat.zero_le _,rfl,rfl⟩
 case round =>
  obtain ⟨k,hk,rfl,rfl⟩:=hrel
  by_cases hkn:k < n
  · obtain ⟨b,off,rfl,hc⟩:=HC.out (by omega)
    have f0:=hc k hkn
    have h1:¬ k0=K k:=fun h=>HL.out k hkn h.symm
    clear hc
    go_wp2
    go_roundw
    case rel=>exact ⟨k+1,by omega,by go_num,by first | rfl | trivial⟩
    case measure=>simp [intOf];omega
  · go_wp2
    go_ret
    exact ⟨rfl,rfl⟩
theorem nullI_any (a:Option Addr) (cap:Nat) (K:Nat→Int) (w:World) (H:IsI w a 2 K) :
 Calls Tryz.prog 223 #[.slice a 2 cap,.int .i64 0] w fun e w'=>e=.returned (.bool (decide (K 0=0) || decide (K 1=0)))∧w'=w:=by
 have key:(∃ i:Nat,(decide (K 0=0) || decide (K 1=0))=true∧Calls Tryz.prog 225 #[.slice a (2:Nat) cap,.int .i64 0] w fun e w'=>e=.returned (.int .i64 i)∧w'=w) ∨ ((decide (K 0=0) || decide (K 1=0))=false∧Calls Tryz.prog 225 #[.slice a (2:Nat) cap,.int .i64 0] w fun e w'=>e=.returned (.int .i64 (-1))∧w'=w):=by
  by_cases h0:K 0=0
  · exact .inl ⟨0,by simp [h0],hasI_some a 2 cap 0 K 0 w H (by omega) (by omega) h0 fun j hj=>by omega⟩
  · by_cases h1:K 1=0
    · exact .inl ⟨1,by simp [h1],hasI_some a 2 cap 1 K 0 w H (by omega) (by omega) h1 fun j hj=>(show j=0 by omega) ▸ h0⟩
    · refine .inr ⟨by simp [h0,h1],hasI_none a 2 cap K 0 w H (by omega) fun j hj=>?_⟩
      match j,hj with
      | 0,_=>exact h0
      | 1,_=>exact h1
 clear H
 rcases key with ⟨i,e,c⟩ | ⟨e,c⟩
 · rw [e]
   have C:=hid c
   have h0:(0:Int)≤i:=by omega
   clear c e
   go_enter Tryz.func223,Tryz.ntmps223
   go_wp2_with (first | (go_at_call 225;refine C.out.mono ?_;rintro e w1 ⟨rfl,rfl⟩))
   go_ret
   exact ⟨by simp,rfl⟩
 · rw [e]
   have C:=hid c
   clear c e
   go_enter Tryz.func223,Tryz.ntmps223
   go_wp2_with (first | (go_at_call 225;refine C.out.mono ?_;rintro e w1 ⟨rfl,rfl⟩))
   go_ret
   exact ⟨rfl,rfl⟩
theorem alike_any (a:Option Addr) (cap:Nat) (K:Nat→Int) (w:World) (H:IsI w a 2 K) :
 Calls Tryz.prog 214 #[.slice a 2 cap] w (RV (.bool (decide (K 0=K 1) || (decide (K 0=0) || decide (K 1=0)))) w):=by
 have C:Hid (∀ d,Below w.heap.size w d→Calls Tryz.prog 223 _ d _):=fun d hd=>nullI_any a cap K d (H.later hd)
 obtain ⟨b,o,rfl,hc⟩:=H (by omega)
 have f0:=hc 0 (by omega)
 have f1:=hc 1 (by omega)
 rw [Nat.add_zero] at f0
 clear hc H
 by_cases h:K 0=K 1
 · rw [decide_eq_true h]
   clear C
   rw [← h] at f1
   generalize K 0=k0 at *
   go_enter Tryz.func214,Tryz.ntmps214
   go_wp2
   go_quiet (fail)
   go_wp2
   go_ret
   exact ⟨rfl,below_drewN (Below.refl _ _) _⟩
 · rw [decide_eq_false h]
   have h':(K 0 == K 1)=false:=by simp [h]
   generalize (decide (K 0=0) || decide (K 1=0))=r at C ⊢
   go_enter Tryz.func214,Tryz.ntmps214
   go_wp2
   go_region_with (first | (go_at_call 223;refine (C.out _ (by first | exact Below.refl _ _ | exact (Below.refl _ _).drew| exact below_drewN (Below.refl _ _) _)).mono ?_;rintro e w1 ⟨rfl,rfl⟩))
   all_goals go_wp2
   all_goals go_ret
   all_goals exact ⟨rfl,(Below.refl _ _).drew⟩
theorem ordered_any (a:Option Addr) (n cap:Nat) (K:Nat→Int) (w:World) (H:IsI w a n K) (hn:n≤1048576) :
 Calls Tryz.prog 215 #[.slice a n cap] w (RV (.bool (allB K 2 n || allB K 3 n)) w):=by
 obtain ⟨w1,hw1⟩:∃ w1,w1=w.alloc (.cells #[.int .i64 2] 3):=⟨_,rfl⟩
 obtain ⟨w2,hw2⟩:∃ w2,w2=w1.alloc (.cells #[.int .i64 3] 3):=⟨_,rfl⟩
 have hB1:Below w.heap.size w w1:=by rw [hw1];exact nwB _ _
 have hB2:Below w1.heap.size w1 w2:=by rw [hw2];exact nwB _ _
 have C1:Hid (Calls Tryz.prog 220 #[.slice a n cap,.pointer (some ⟨w.heap.size,0,none⟩)] w1 fun e w'=>e=.returned (.bool (allB K 2 n))∧w'=w1):=all1_any a n cap w.heap.size K 2 w1 (H.later hB1) hn (by rw [hw1];exact box_at w 2)
 have C2:Hid (Calls Tryz.prog 220 #[.slice a n cap,.pointer (some ⟨w1.heap.size,0,none⟩)] w2 fun e w'=>e=.returned (.bool (allB K 3 n))∧w'=w2):=all1_any a n cap w1.heap.size K 3 w2 ((H.later hB1).later hB2) hn (by rw [hw2];exact box_at w1 3)
 have A1:Hid (Calls Tryz.prog 213 #[.int .i64 2] w fun e w'=>e=.returned (.func (.func 220) #[] #[.pointer (some ⟨w.heap.size,0,none⟩)])∧w'=w1):=by rw [hw1];exact allT_any 2 w
 have A2:Hid (Calls Tryz.prog 213 #[.int .i64 3] w1 fun e w'=>e=.returned (.func (.func 220) #[] #[.pointer (some ⟨w1.heap.size,0,none⟩)])∧w'=w2):=by rw [hw2];exact allT_any 3 w1
 clear H hn hw1 hw2
 generalize allB K 2 n=r at C1 ⊢
 generalize allB K 3 n=s at C2 ⊢
 cases r
 · go_enter Tryz.func215,Tryz.ntmps215
   go_wp2_with (first
    | (go_at_call 213;refine A2.out.mono ?_;rintro e w' ⟨rfl,rfl⟩)
    | (go_at_call 213;refine A1.out.mono ?_;rintro e w' ⟨rfl,rfl⟩)
    | (go_at_call 220;refine C2.out.mono ?_;rintro e w' ⟨rfl,rfl⟩)
    | (go_at_call 220;refine C1.out.mono ?_;rintro e w' ⟨rfl,rfl⟩))
   go_ret
   exact ⟨by simp,hB1.trans (hB2.mono hB1.size)⟩
 · go_enter Tryz.func215,Tryz.ntmps215
   go_wp2_with (first
    | (go_at_call 213;refine A1.out.mono ?_;rintro e w' ⟨rfl,rfl⟩)
    | (go_at_call 220;refine C1.out.mono ?_;rintro e w' ⟨rfl,rfl⟩))
   go_ret
   exact ⟨by simp,hB1⟩
abbrev ruleV (k:Int) (f:Value):Value:=.agg #[.int .i64 k,f]
abbrev allRuleV (p:Nat):Value:=.func (.func 220) #[] #[.pointer (some ⟨p,0,none⟩)]
theorem ruleA (k:Int) (w:World) (h:k=3 ∨ k=4 ∨ k=5 ∨ k=6 ∨ k=7 ∨ k=8):Calls Tryz.prog 206 #[.int .i64 k] w fun e w'=>∃ p,e=.returned (ruleV 2 (allRuleV p))∧w'.cell? ⟨p,0,none⟩=some (.int .i64 2)∧Below w.heap.size w w':=by
 have A:Hid (∀ d:World,Calls Tryz.prog 213 _ d _):=fun d=>allT_any 2 d
 rcases h with rfl | rfl | rfl | rfl | rfl | rfl
 all_goals (
  go_enter Tryz.func206,Tryz.ntmps206
  go_wp2_with (first | (go_at_call 213;refine (A.out _).mono ?_;rintro e w1 ⟨rfl,rfl⟩)))
 all_goals exact bodyPost_ret (v:=ruleV 2 (allRuleV (w.heap.size+1))) (by simp [results,Tryz.results206,go_sem]) rfl ⟨w.heap.size+1,rfl,by have:=box_at (w.alloc (.cells #[.int .i64 2,allRuleV (w.heap.size+1)] 267)) 2;rwa [World.size_alloc] at this,(nwB _ _).alloc (by simp) _⟩
theorem ruleB (k:Int) (w:World) (h:k=9 ∨ k=10):Calls Tryz.prog 206 #[.int .i64 k] w (RV (ruleV 1 (.func (.func 214) #[] #[])) w):=by
 rcases h with rfl | rfl
 all_goals (
  go_enter Tryz.func206,Tryz.ntmps206
  go_wp2)
 all_goals exact bodyPost_ret (v:=ruleV 1 (.func (.func 214) #[] #[])) (by simp [results,Tryz.results206,go_sem]) rfl ⟨rfl,nwB _ _⟩
theorem ruleC (k:Int) (w:World) (h:k=11 ∨ k=12 ∨ k=13 ∨ k=14):Calls Tryz.prog 206 #[.int .i64 k] w (RV (ruleV 1 (.func (.func 215) #[] #[])) w):=by
 rcases h with rfl | rfl | rfl | rfl
 all_goals (
  go_enter Tryz.func206,Tryz.ntmps206
  go_wp2)
 all_goals exact bodyPost_ret (v:=ruleV 1 (.func (.func 215) #[] #[])) (by simp [results,Tryz.results206,go_sem]) rfl ⟨rfl,nwB _ _⟩
theorem ruleD (k:Int) (w:World) (h:k=15 ∨ k=16 ∨ k=17):Calls Tryz.prog 206 #[.int .i64 k] w fun e w'=>∃ p,e=.returned (ruleV 1 (allRuleV p))∧w'.cell? ⟨p,0,none⟩=some (.int .i64 1)∧Below w.heap.size w w':=by
 have A:Hid (∀ d:World,Calls Tryz.prog 213 _ d _):=fun d=>allT_any 1 d
 rcases h with rfl | rfl | rfl
 all_goals (
  go_enter Tryz.func206,Tryz.ntmps206
  go_wp2_with (first | (go_at_call 213;refine (A.out _).mono ?_;rintro e w1 ⟨rfl,rfl⟩)))
 all_goals exact bodyPost_ret (v:=ruleV 1 (allRuleV (w.heap.size+1))) (by simp [results,Tryz.results206,go_sem]) rfl ⟨w.heap.size+1,rfl,by have:=box_at (w.alloc (.cells #[.int .i64 1,allRuleV (w.heap.size+1)] 267)) 1;rwa [World.size_alloc] at this,(nwB _ _).alloc (by simp) _⟩
def fldK (q:Option Int):Int:=q.getD 0
def fldE (N:Addr) (q:Option Int):Value:=if q.isSome then .nilIface else senV N
def FieldC (nv:Value) (N:Addr) (L:ByteArray→ByteArray→Option Int) (d:World):Prop :=
 ∀ s f,s.size≤maxLen→Calls Tryz.prog 204 #[nv,.string s,.string f] d (RV (.tuple #[.int .i64 (fldK (L s f)),fldE N (L s f)]) d)
theorem kind_const (nv:Value) (N T:Addr) (x:X) (w:World) (h1:x.k=1):KindC nv N T x x.v.k 0 w:=by
 obtain ⟨A,hA,hB,hs,hn⟩:=one_box x w
 obtain ⟨a0,a1,a2,a3,a4,a5,a6⟩:=hn.at0
 have h1':(x.k == 1)=true:=by simp [h1]
 have HB:=hid hB
 clear hB hn h1
 unfold KindC
 go_enter Tryz.func184,Tryz.ntmps184
 go_wp2
 exact bodyPost_ret (v:=.tuple #[.int .i64 x.v.k,.nilIface]) (by simp [results,Tryz.results184,go_sem]) rfl ⟨.nilIface,rfl,.inl ⟨rfl,rfl⟩,HB.out⟩
theorem kind_field (nv:Value) (N _:Addr) (L:ByteArray→ByteArray→Option Int) (x:X) (w:World) (h2:x.k=2) (hsz:x.s.size≤maxLen) (HF:∀ d,Below w.heap.size w d→FieldC nv N L d) :
 Calls Tryz.prog 184 #[nv,x.val] w (RV (.tuple #[.int .i64 (fldK (L x.s x.f)),fldE N (L x.s x.f)]) w):=by
 obtain ⟨A,hA,hB,hs,hn⟩:=one_box x w
 obtain ⟨a0,a1,a2,a3,a4,a5,a6⟩:=hn.at0
 have h1':(x.k == 1)=false:=by simp [h2]
 have h2':(x.k == 2)=true:=by simp [h2]
 have HB:=hid hB
 have C:Hid (Calls Tryz.prog 204 _ A _):=HF A hB x.s x.f hsz
 clear hB hn h2 HF hsz
 generalize L x.s x.f=q at C ⊢
 go_enter Tryz.func184,Tryz.ntmps184
 go_wp2_with (first | (go_at_call 204;refine C.out.mono ?_;rintro e w2 ⟨rfl,hB2⟩))
 exact bodyPost_ret (v:=.tuple #[.int .i64 (fldK q),fldE N q]) (by simp [results,Tryz.results184,go_sem]) rfl ⟨rfl,HB.out.trans (hB2.mono HB.out.size)⟩
theorem kind_err (nv:Value) (N T:Addr) (x:X) (e:Int) (w:World) (h3:3≤x.k) (h0:¬ e=0) (HP:∀ d,Below w.heap.size w d→Calls Tryz.prog 205 #[nv,x.slice] d fun r w'=>∃ v,r=.returned (.tuple #[.slice none 0 0,v])∧ErrIs N T e v∧Below d.heap.size d w'):KindC nv N T x 0 e w:=by
 obtain ⟨A,hA,hB,hs,hn⟩:=one_box x w
 obtain ⟨a0,a1,a2,a3,a4,a5,a6⟩:=hn.at0
 have h1':(x.k == 1)=false:=by simp;omega
 have h2':(x.k == 2)=false:=by simp;omega
 have HB:=hid hB
 have C:Hid (Calls Tryz.prog 205 _ A _):=HP A hB
 have H0:=hid h0
 clear hB hn h3 HP h0
 unfold KindC
 go_enter Tryz.func184,Tryz.ntmps184
 go_wp2_with (first | (go_at_call 205;refine C.out.mono ?_;rintro r w2 ⟨v,rfl,he,hB2⟩;have HV:=hid he;obtain ⟨t1,u1,rfl⟩:=he.some H0.out;clear he))
 exact bodyPost_ret (v:=.tuple #[.int .i64 0,.iface t1 u1]) (by simp [results,Tryz.results184,go_sem]) rfl ⟨_,rfl,HV.out,HB.out.trans (hB2.mono HB.out.size)⟩
end Go.Proofs.YtkfpgkohkhhlhaaGreatDoor
