/- Texts that the last one stands on. -/
import Derived.Test.YtkfpgkohkhhlhaaGreatDoorGWlIn
set_option maxRecDepth 100000
set_option maxHeartbeats 2000000
namespace Go.Proofs.YtkfpgkohkhhlhaaGreatDoor
open Go.RowKit Go.Shelf Go.Sort Go.Lib
theorem own_txs_of {w:World} {a:Option Addr} {n:Nat} {l:List ByteArray} {b o:Nat} (ha:a = some ⟨b,o,none⟩) (h:Txs w a n (atS l)) (hl:l.length = n):∀ j u,(cellsS l)[j]? = some u→w.cell? ⟨b,o + j,none⟩ = some u:=by
 intro j u hu
 have hj:j < l.length:=by have:=(List.getElem?_eq_some_iff.1 hu).1;simpa [cellsS] using this
 obtain ⟨b',o',e,hc⟩:=h (by omega)
 rw [ha] at e
 cases e
 rw [hc j (by omega)]
 rw [cellsS,List.getElem?_map,List.getElem?_eq_getElem hj] at hu
 simp only [Option.map_some,Option.some.injEq] at hu
 rw [← hu]
 simp [atS,hj]
theorem cloneT_any (a:Option Addr) (n cap:Nat) (l:List ByteArray) (w:World) (h:Txs w a n (atS l)) (hl:l.length = n) (hn:n ≤ 1048576) :
 Calls Tryz.prog 202 #[.slice a n cap] w fun e w'=>∃ v,e = .returned v∧w'.ownsRow w.heap.size 9 1 v n (cellsS l)∧Below w.heap.size w w':=by
 cases a with
 | none =>
   obtain rfl:n = 0:=by
    by_cases h0:0 < n
    · obtain ⟨_,_,e,_⟩:=h h0
      cases e
    · omega
   obtain rfl:l = []:=List.eq_nil_of_length_eq_zero hl
   clear h hl
   have he:∀ w:World,(binOp .eql 37 (.slice none 0 cap) (.slice none 0 0)).run Tryz.prog w = .ok (.bool true) w:=fun _=>rfl
   go_enter Tryz.func202,Tryz.ntmps202
   go_wp2
   go_ret
   exact ⟨_,rfl,World.ownsRow_nil _ _ _ _,Below.refl _ _⟩
 | some x =>
   obtain ⟨i0,hi,hz0,hz1,hz2⟩:=info_parts infoS
   have hB0:Below w.heap.size w (w.alloc (.cells #[] 9)):=nwB _ _
   have hown0:(w.alloc (.cells #[] 9)).ownsRow w.heap.size 9 1 (.slice (some ⟨w.heap.size,0,none⟩) 0 0) 0 [] :=
    ⟨rfl,.inr ⟨w.heap.size,0,#[],rfl,Nat.le_refl _,alloc_new w _,Nat.le_refl _,Nat.zero_le _,rfl,rfl⟩⟩
   obtain ⟨v1,w1,hrun1,hown1,hg1,_⟩:=run_append_own (P:=Tryz.prog) (w:=w.alloc (.cells #[] 9)) w.heap.size 37 37 9 i0 _ 1 16 Tryz.underlying37 hi hz0 hz1 hz2 rfl (by decide) _ 0 [] hown0 x n cap (cellsS l) (by simp [cellsS,hl])
    (fun j u hu=>by
      have h':=h.later hB0
      have hj:j < l.length:=by have:=(List.getElem?_eq_some_iff.1 hu).1;simpa [cellsS] using this
      obtain ⟨b',o',e,hc⟩:=h' (by omega)
      cases e
      rw [add_none]
      exact own_txs_of rfl h' hl j u hu) (by simp [cellsS,Value.oneCell']) (by unfold maxLen;omega) (by omega) (by simp)
   simp only [Nat.zero_add,List.nil_append] at hown1
   have hB1:Below w.heap.size w w1:=hB0.grown hg1 (by simp) (by intro k hk;simp [Value.ownBlock] at hk;omega)
   have HR1:=hid hrun1
   clear h hown0 hB0 hg1 hrun1 hl
   have he:∀ w:World,(binOp .eql 37 (.slice (some x) n cap) (.slice none 0 0)).run Tryz.prog w = .ok (.bool false) w:=fun _=>rfl
   go_enter Tryz.func202,Tryz.ntmps202
   go_wp2_with (first | (at_builtin;refine wpList_append_run rfl (.tmp 5) (.tmp 6) 37 rfl _ _ _ rfl rfl HR1.out ?_))
   go_ret
   exact ⟨_,rfl,hown1,hB1⟩
theorem both1_gives (B:Nat) (a:Option Addr) (n cap:Nat) (l:List ByteArray) (s:ByteArray) (W:World) (hB:W.cell? ⟨B,0,none⟩ = some (.slice a n cap)) (h:Txs W a n (atS l)) (hl:l.length = n) (hn:n ≤ 9223372036854775807) :
 FnGives Tryz.prog 203 #[.pointer (some ⟨B,0,none⟩)] #[.string s] (.bool (!memB l s)) W:=by
 have C:=containsS_any a n cap l s W h hl hn
 clear h hl
 show Calls Tryz.prog 203 #[.string s,.pointer (some ⟨B,0,none⟩)] W _
 go_enter Tryz.func203,Tryz.ntmps203
 go_wp2_with (go_at_call 42;refine C.mono ?_;rintro e w2 ⟨rfl,q,rfl⟩)
 go_ret
 exact ⟨rfl,q,rfl⟩
theorem putRow_grown {w:World} {g n:Nat} (d:Array ByteArray):w.grownBy (putRow Value.string (Sort.ahead w n) g 0 d) (some g):=by
 refine ⟨rfl,rfl,rfl,by simp,fun k hk hne=>?_⟩
 have:g ≠ k:=fun e=>hne (by rw [e])
 simp [putRow,mapBlock,Sort.ahead,Array.getElem?_modify,this]
def bothL (l m:List ByteArray):List ByteArray:=l.filter fun s=>memB m s
theorem delNil_any (g:Nat) (lb:Array Value) (w:World):Calls Tryz.prog 201 #[.slice none 0 0,.func (.func g) #[] lb] w fun e w'=>e = .returned (.slice none 0 0)∧w' = w:=by
 have C:Calls Tryz.prog 211 #[.slice none 0 0,.func (.func g) #[] lb] w fun e w'=>e = .returned (.int .i64 (-1))∧w' = w:=by
  go_enter Tryz.func211,Tryz.ntmps211
  go_wp2
  go_loopw [8] (fun u wr=>u = .int .i64 0∧wr = w) (fun _ _=>0)
  case atStart=>exact ⟨rfl,rfl⟩
  case round =>
   obtain ⟨rfl,rfl⟩:=hrel
   go_wp2
   go_ret
   exact ⟨rfl,rfl⟩
 go_enter Tryz.func201,Tryz.ntmps201
 go_wp2_with (go_at_call 211;refine C.mono ?_;rintro e w2 ⟨rfl,rfl⟩)
 go_ret
 exact ⟨rfl,rfl⟩
theorem both_any (a:Option Addr) (n cap:Nat) (l:List ByteArray) (a2:Option Addr) (n2 cap2:Nat) (m:List ByteArray) (w:World) (h:Txs w a n (atS l)) (hl:l.length = n) (hn:n ≤ 1048576) (h2:Txs w a2 n2 (atS m)) (hl2:m.length = n2) (hn2:n2 ≤ 9223372036854775807) :
 Calls Tryz.prog 182 #[.slice a n cap,.slice a2 n2 cap2] w fun e w'=>∃ v,e = .returned v∧w'.ownsRow w.heap.size 9 1 v (bothL l m).length (cellsS (bothL l m))∧Below w.heap.size w w':=by
 obtain ⟨A,hA⟩:∃ A,w.alloc (.cells #[.slice a2 n2 cap2] 37) = A:=⟨_,rfl⟩
 have hBA:Below w.heap.size w A:=by rw [← hA];exact nwB w _
 have hsA:A.heap.size = w.heap.size + 1:=by rw [← hA];simp
 have hb:A.cell? ⟨w.heap.size,0,none⟩ = some (.slice a2 n2 cap2):=by rw [← hA];simp
 have C1:=cloneT_any a n cap l A (h.later hBA) hl hn
 have h2A:=h2.later hBA
 have eg:∀ args w,(callFunc 203 args).run Tryz.prog w = .ok (.enter 203 args) w:=enters_of Tryz.func203 (by kernel_rfl) rfl
 have key:∀ v W,W.ownsRow A.heap.size 9 1 v n (cellsS l)→Below A.heap.size A W →
  Calls Tryz.prog 201 #[v,.func (.func 203) #[] #[.pointer (some ⟨w.heap.size,0,none⟩)]] W fun e w'=>∃ v,e = .returned v∧w'.ownsRow A.heap.size 9 1 v (bothL l m).length (cellsS (bothL l m))∧Below A.heap.size A w':=by
  intro v W ho hB
  by_cases hv:v = .slice none 0 0
  · subst hv
    have hl0:l = []:=by
     rcases ho.2 with ⟨_,e⟩ | ⟨g,cap,cur,e,_⟩
     · exact List.eq_nil_of_length_eq_zero (by omega)
     · cases e
    subst hl0
    refine (delNil_any _ _ W).mono ?_
    rintro e w' ⟨rfl,rfl⟩
    exact ⟨_,rfl,World.ownsRow_nil _ _ _ _,hB⟩
  · have ho':=ho
    obtain ⟨g,cap',rfl,hg,hgl,hnc,hcm,hzl,hH⟩:=Lib.holds_of_ownsRow (enc:=Value.string) (zs:=l) ho hv
    have hcap:∀ W',Below A.heap.size A W'→W'.cell? ⟨w.heap.size,0,none⟩ = some (.slice a2 n2 cap2)∧Txs W' a2 n2 (atS m):=fun W' h'=>⟨(h'.cell (p:=⟨w.heap.size,0,none⟩) (by show w.heap.size < _;omega)).trans hb,h2A.later h'⟩
    have hp:PredAt Tryz.prog 203 #[.pointer (some ⟨w.heap.size,0,none⟩)] Value.string (fun s=>!memB m s) W:=fun W' s hb'=>by
     obtain ⟨q1,q2⟩:=hcap W' (hB.trans (hb'.mono hB.size))
     exact both1_gives _ a2 n2 cap2 m s W' q1 q2 hl2 hn2
    have hpo:PredOver Tryz.prog 203 #[.pointer (some ⟨w.heap.size,0,none⟩)] Value.string (fun s=>!memB m s) g 0 l.toArray.size W:=fun k os dk s _=>by
     have hbl:Below A.heap.size A (sortWorld Value.string W g 0 k dk os):=by
      refine hB.trans ⟨rfl,rfl,rfl,?_,fun i hi=>?_⟩
      · unfold sortWorld;simp [size_putRow]
      · unfold sortWorld
        have hi':i < W.heap.size:=by have:=hB.size;omega
        rw [heap_grow_old _ _ (by simpa using hi')]
        exact (putRow_grown (w:=W) (n:=k) dk).block i hi' (fun e=>by injection e with e;omega)
     obtain ⟨q1,q2⟩:=hcap _ hbl
     exact both1_gives _ a2 n2 cap2 m s _ q1 q2 hl2 hn2
    have hcon:=AnyE.slices_DeleteFunc Tryz.delS201 Value.string (fun _=>rfl) (fun s=>!memB m s) 203 #[.pointer (some ⟨w.heap.size,0,none⟩)] eg ⟨#[]⟩ Tryz.zeroValue9 g 0 cap' l.toArray W hp hpo hH (by simp;omega) (by simp;omega)
    have e1:(l.toArray.toList.filter fun x=>!(fun s=>!memB m s) x) = bothL l m:=by simp [bothL]
    rw [e1] at hcon
    have hlen:(bothL l m).length ≤ n:=by rw [← hl];exact List.length_filter_le _ _
    have e2:l.toArray.size = n:=by simp [hl]
    rw [e2] at hcon
    refine Calls.mono hcon ?_
    rintro e w' ⟨rfl,q,rfl⟩
    refine ⟨_,rfl,?_,hB.grown (putRow_grown _) hB.size (fun k e=>by injection e with e;omega)⟩
    have:=Lib.ownsRow_putRow (q:=q) (k:=(bothL l m).length) (ys:=bothL l m ++ List.replicate (n - (bothL l m).length) ⟨#[]⟩) (enc:=Value.string) (zs:=l) ho' (by simp;omega) hlen
    rw [List.take_left] at this
    exact this
 clear h h2 h2A hb eg
 go_enter Tryz.func182,Tryz.ntmps182
 go_wp2_with (first
  | (go_at_call 202;refine C1.mono ?_;rintro e w2 ⟨v2,rfl,ho2,hB2⟩;have C2:=key v2 w2 ho2 hB2;clear key)
  | (go_at_call 201;refine C2.mono ?_;rintro e w3 ⟨v3,rfl,ho3,hB3⟩))
 go_ret
 refine ⟨_,rfl,⟨ho3.1,?_⟩,hBA.trans (hB3.mono (by omega))⟩
 rcases ho3.2 with h1 | ⟨g,cap',cur,e,hg,hc,hr⟩
 · exact .inl h1
 · exact .inr ⟨g,cap',cur,e,by omega,hc,hr⟩
end Go.Proofs.YtkfpgkohkhhlhaaGreatDoor
