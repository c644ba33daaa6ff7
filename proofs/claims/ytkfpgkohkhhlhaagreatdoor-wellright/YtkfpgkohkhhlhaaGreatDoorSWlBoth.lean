/- Texts that the last one stands on. -/
import Derived.Test.YtkfpgkohkhhlhaaGreatDoorSWlVarsOf
set_option maxRecDepth 100000
set_option maxHeartbeats 2000000
namespace Go.Proofs.YtkfpgkohkhhlhaaGreatDoor
open Go.RowKit Go.Shelf Go.Sort Go.Lib
theorem own_txs_of {w:World} {a:Option Addr} {n:Nat} {l:List ByteArray} {b o:Nat} (ha:a = some ⟨b,o,none⟩) (h:Txs w a n (atS l)) (hl:l.length = n):∀ j u,(cellsS l)[j]? = some u→w.cell? ⟨b,o + j,none⟩ = some u:=by
 intro j u hu
 have hj:j < l.length:=by have:=(List.getElem?_eq_some_iff.1 hu).1;simpa [cellsS] using this
 obtain ⟨b',o',e,hc⟩:=h (by omega)
 rw [ha] at e
 cases e
 rw [hc j (by omega)]
 rw [cellsS,List.getElem?_map,List.getElem?_eq_getElem hj] at hu
 simp only [Option.map_some,Option.some.injEq] at hu
 rw [← hu]
 simp [atS,hj]
theorem cloneT_any (a:Option Addr) (n cap:Nat) (l:List ByteArray) (w:World) (h:Txs w a n (atS l)) (hl:l.length = n) (hn:n ≤ 1048576) :
 Calls Tryz.prog 202 #[.slice a n cap] w fun e w'=>∃ v,e = .returned v∧w'.ownsRow w.heap.size 9 1 v n (cellsS l)∧Below w.heap.size w w':=by
 cases a with
 | none =>
   obtain rfl:n = 0:=by
    by_cases h0:0 < n
    · obtain ⟨_,_,e,_⟩:=h h0
      cases e
    · omega
   obtain rfl:l = []:=List.eq_nil_of_length_eq_zero hl
   clear h hl
   have he:∀ w:World,(binOp .eql 37 (.slice none 0 cap) (.slice none 0 0)).run Tryz.prog w = .ok (.bool true) w:=fun _=>rfl
   go_enter Tryz.func202,Tryz.ntmps202
   go_wp2
   go_ret
   exact ⟨_,rfl,World.ownsRow_nil _ _ _ _,Below.refl _ _⟩
 | some x =>
   obtain ⟨i0,hi,hz0,hz1,hz2⟩:=info_parts infoS
   have hB0:Below w.heap.size w (w.alloc (.cells #[] 9)):=nwB _ _
   have hown0:(w.alloc (.cells #[] 9)).ownsRow w.heap.size 9 1 (.slice (some ⟨w.heap.size,0,none⟩) 0 0) 0 [] :=
    ⟨rfl,.inr ⟨w.heap.size,0,#[],rfl,Nat.le_refl _,alloc_new w _,Nat.le_refl _,Nat.zero_le _,rfl,rfl⟩⟩
   obtain ⟨v1,w1,hrun1,hown1,hg1,_⟩:=run_append_own (P:=Tryz.prog) (w:=w.alloc (.cells #[] 9)) w.heap.size 37 37 9 i0 _ 1 16 Tryz.underlying37 hi hz0 hz1 hz2 rfl (by decide) _ 0 [] hown0 x n cap (cellsS l) (by simp [cellsS,hl])
    (fun j u hu=>by
      have h':=h.later hB0
      have hj:j < l.length:=by have:=(List.getElem?_eq_some_iff.1 hu).1;simpa [cellsS] using this
      obtain ⟨b',o',e,hc⟩:=h' (by omega)
      cases e
      rw [add_none]
      exact own_txs_of rfl h' hl j u hu) (by simp [cellsS,Value.oneCell']) (by unfold maxLen;omega) (by omega) (by simp)
   simp only [Nat.zero_add,List.nil_append] at hown1
   have hB1:Below w.heap.size w w1:=hB0.grown hg1 (by simp) (by intro k hk;simp [Value.ownBlock] at hk;omega)
   have HR1:=hid hrun1
   clear h hown0 hB0 hg1 hrun1 hl
   have he:∀ w:World,(binOp .eql 37 (.slice (some x) n cap) (.slice none 0 0)).run Tryz.prog w = .ok (.bool false) w:=fun _=>rfl
   go_enter Tryz.func202,Tryz.ntmps202
   go_wp2_with (first | (at_builtin;refine wpList_append_run rfl (.tmp 5) (.tmp 6) 37 rfl _ _ _ rfl rfl HR1.out ?_))
   go_ret
   exact ⟨_,rfl,hown1,hB1⟩
theorem both1_gives (B:Nat) (a:Option Addr) (n cap:Nat) (l:List ByteArray) (s:ByteArray) (W:World) (hB:W.cell? ⟨B,0,none⟩ = some (.slice a n cap)) (h:Txs W a n (atS l)) (hl:l.length = n) (hn:n ≤ 9223372036854775807) :
 FnGives Tryz.prog 203 #[.pointer (some ⟨B,0,none⟩)] #[.string s] (.bool (!memB l s)) W:=by
 have C:=containsS_any a n cap l s W h hl hn
 clear h hl
 show Calls Tryz.prog 203 #[.string s,.pointer (some ⟨B,0,none⟩)] W _
 go_enter Tryz.func203,Tryz.ntmps203
 go_wp2_with (go_at_call 42;refine C.mono ?_;rintro e w2 ⟨rfl,q,rfl⟩)
 go_ret
 exact ⟨rfl,q,rfl⟩
theorem putRow_grown {w:World} {g n:Nat} (d:Array ByteArray):w.grownBy (putRow Value.string (Sort.ahead w n) g 0 d) (some g):=by
 refine ⟨rfl,rfl,rfl,by simp,fun k hk hne=>?_⟩
 have:g ≠ k:=fun e=>hne (by rw [e])
 simp [putRow,mapBlock,Sort.ahead,Array.getElem?_modify,this]
def bothL (l m:List ByteArray):List ByteArray:=l.filter fun s=>memB m s
theorem delNil_any (g:Nat) (lb:Array Value) (w:World):Calls Tryz.prog 201 #[.slice none 0 0,.func (.func g) #[] lb] w fun e w'=>e = .returned (.slice none 0 0)∧w' = w:=by
 have C:Calls Tryz.prog 211 #[.slice none 0 0,.func (.func g) #[] lb] w fun e w'=>e = .returned (.int .i64 (-1))∧w' = w:=by
  go_enter Tryz.func211,Tryz.ntmps211
  go_wp2
  go_loopw [8] (fun u wr=>u = .int .i64 0∧wr = w) (fun _ _=>0)
  case atStart=>exact ⟨rfl,rfl⟩
  case round =>
   obtain ⟨rfl,rfl⟩:=hrel
   go_wp2
   go_ret
   exact ⟨rfl,rfl⟩
 go_enter Tryz.func201,Tryz.ntmps201
 go_wp2_with (go_at_call 211;refine C.mono ?_;rintro e w2 ⟨rfl,rfl⟩)
 go_ret
 exact ⟨rfl,rfl⟩
theorem both_any (a:Option Addr) (n cap:Nat) (l:List ByteArray) (a2:Option Addr) (n2 cap2:Nat) (m:List ByteArray) (w:World) (h:Txs w a n (atS l)) (hl:l.length = n) (hn:n ≤ 1048576) (h2:Txs w a2 n2 (atS m)) (hl2:m.length = n2) (hn2:n2 ≤ 9223372036854775807) :
 Calls Tryz.prog 182 #[.slice a n cap,.slice a2 n2 cap2] w fun e w'=>∃ v,e = .returned v∧w'.ownsRow w.heap.size 9 1 v (bothL l m).length (cellsS (bothL l m))∧Below w.heap.size w w':=by
 obtain ⟨A,hA⟩:∃ A,w.alloc (.cells #[.slice a2 n2 cap2] 37) = A:=⟨_,rfl⟩
 have hBA:Below w.heap.size w A:=by rw [← hA];exact nwB w _
 have hsA:A.heap.size = w.heap.size + 1:=by rw [← hA];simp
 have hb:A.cell? ⟨w.heap.size,0,none⟩ = some (.slice a2 n2 cap2):=by rw [← hA];simp
 have C1:=cloneT_any a n cap l A (h.later hBA) hl hn
 have h2A:=h2.later hBA
 have eg:∀ args w,(callFunc 203 args).run Tryz.prog w = .ok (.enter 203 args) w:=enters_of Tryz.func203 (by kernel_rfl) rfl
 have key:∀ v W,W.ownsRow A.heap.size 9 1 v n (cellsS l)→Below A.heap.size A W →
  Calls Tryz.prog 201 #[v,.func (.func 203) #[] #[.pointer (some ⟨w.heap.size,0,none⟩)]] W fun e w'=>∃ v,e = .returned v∧w'.ownsRow A.heap.size 9 1 v (bothL l m).length (cellsS (bothL l m))∧Below A.heap.size A w':=by
  intro v W ho hB
  by_cases hv:v = .slice none 0 0
  · subst hv
    have hl0:l = []:=by
     rcases ho.2 with ⟨_,e⟩ | ⟨g,cap,cur,e,_⟩
     · exact List.eq_nil_of_length_eq_zero (by omega)
     · cases e
    subst hl0
    refine (delNil_any _ _ W).mono ?_
    rintro e w' ⟨rfl,rfl⟩
    exact ⟨_,rfl,World.ownsRow_nil _ _ _ _,hB⟩
  · have ho':=ho
    obtain ⟨g,cap',rfl,hg,hgl,hnc,hcm,hzl,hH⟩:=Lib.holds_of_ownsRow (enc:=Value.string) (zs:=l) ho hv
    have hcap:∀ W',Below A.heap.size A W'→W'.cell? ⟨w.heap.size,0,none⟩ = some (.slice a2 n2 cap2)∧Txs W' a2 n2 (atS m):=fun W' h'=>⟨(h'.cell (p:=⟨w.heap.size,0,none⟩) (by show w.heap.size < _;omega)).trans hb,h2A.later h'⟩
    have hp:PredAt Tryz.prog 203 #[.pointer (some ⟨w.heap.size,0,none⟩)] Value.string (fun s=>!memB m s) W:=fun W' s hb'=>by
     obtain ⟨q1,q2⟩:=hcap W' (hB.trans (hb'.mono hB.size))
     exact both1_gives _ a2 n2 cap2 m s W' q1 q2 hl2 hn2
    have hpo:PredOver Tryz.prog 203 #[.pointer (some ⟨w.heap.size,0,none⟩)] Value.string (fun s=>!memB m s) g 0 l.toArray.size W:=fun k os dk s _=>by
     have hbl:Below A.heap.size A (sortWorld Value.string W g 0 k dk os):=by
      refine hB.trans ⟨rfl,rfl,rfl,?_,fun i hi=>?_⟩
      · unfold sortWorld;simp [size_putRow]
      · unfold sortWorld
        have hi':i < W.heap.size:=by have:=hB.size;omega
        rw [heap_grow_old _ _ (by simpa using hi')]
        exact (putRow_grown (w:=W) (n:=k) dk).block i hi' (fun e=>by injection e with e;omega)
     obtain ⟨q1,q2⟩:=hcap _ hbl
     exact both1_gives _ a2 n2 cap2 m s _ q1 q2 hl2 hn2
    have hcon:=AnyE.slices_DeleteFunc Tryz.delS201 Value.string (fun _=>rfl) (fun s=>!memB m s) 203 #[.pointer (some ⟨w.heap.size,0,none⟩)] eg ⟨#[]⟩ Tryz.zeroValue9 g 0 cap' l.toArray W hp hpo hH (by simp;omega) (by simp;omega)
    have e1:(l.toArray.toList.filter fun x=>!(fun s=>!memB m s) x) = bothL l m:=by simp [bothL]
    rw [e1] at hcon
    have hlen:(bothL l m).length ≤ n:=by rw [← hl];exact List.length_filter_le _ _
    have e2:l.toArray.size = n:=by simp [hl]
    rw [e2] at hcon
    refine Calls.mono hcon ?_
    rintro e w' ⟨rfl,q,rfl⟩
    refine ⟨_,rfl,?_,hB.grown (putRow_grown _) hB.size (fun k e=>by injection e with e;omega)⟩
    have:=Lib.ownsRow_putRow (q:=q) (k:=(bothL l m).length) (ys:=bothL l m ++ List.replicate (n - (bothL l m).length) ⟨#[]⟩) (enc:=Value.string) (zs:=l) ho' (by simp;omega) hlen
    rw [List.take_left] at this
    exact this
 clear h h2 h2A hb eg
 go_enter Tryz.func182,Tryz.ntmps182
 go_wp2_with (first
  | (go_at_call 202;refine C1.mono ?_;rintro e w2 ⟨v2,rfl,ho2,hB2⟩;have C2:=key v2 w2 ho2 hB2;clear key)
  | (go_at_call 201;refine C2.mono ?_;rintro e w3 ⟨v3,rfl,ho3,hB3⟩))
 go_ret
 refine ⟨_,rfl,⟨ho3.1,?_⟩,hBA.trans (hB3.mono (by omega))⟩
 rcases ho3.2 with h1 | ⟨g,cap',cur,e,hg,hc,hr⟩
 · exact .inl h1
 · exact .inr ⟨g,cap',cur,e,by omega,hc,hr⟩
def preF (x:Pt) (i:Nat):Pt:=.mk 0 ⟨#[]⟩ ⟨#[]⟩ 0 0 x.a i x.cap x.c
def hitF (s:ByteArray) (x:Pt) (i:Nat):Bool:=decide (x.k = 2) && (decide ((x.c i).k = 6) && decide ((x.c i).s = s))
def frN (g:Nat→List Pt) (hit:Nat→Bool) (f:Nat→Pt):Nat→List Pt
 | 0=>[]
 | i + 1=>frN g hit f i ++ ((if hit i && (frN g hit f i).isEmpty then [f i] else []) ++ g i)
def frP (s:ByteArray):Pt→List Pt
 | .nil=>[]
 | .mk k s' t lo hi a n cap c=>frN (fun i=>frP s (c i)) (fun i=>hitF s (.mk k s' t lo hi a n cap c) i) (fun i=>preF (.mk k s' t lo hi a n cap c) i) n
theorem frP_eq (s:ByteArray) (x:Pt):frP s x = frN (fun i=>frP s (x.c i)) (hitF s x) (preF x) x.n:=by cases x <;> rfl
def frA (s:ByteArray):Pt→List Pt
 | .nil=>[]
 | .mk k s' t lo hi a n cap c=>catN (fun i=>(if hitF s (.mk k s' t lo hi a n cap c) i then [preF (.mk k s' t lo hi a n cap c) i] else []) ++ frA s (c i)) n
theorem frA_eq (s:ByteArray) (x:Pt):frA s x = catN (fun i=>(if hitF s x i then [preF x i] else []) ++ frA s (x.c i)) x.n:=by cases x <;> rfl
theorem frN_len {g:Nat→List Pt} {hit:Nat→Bool} {f:Nat→Pt} {z:Nat→Nat} (h:∀ i,(g i).length < z i):∀ n,(frN g hit f n).length ≤ sumN z n
 | 0=>Nat.le_refl _
 | n + 1=>by
   have h1:=frN_len (hit:=hit) (f:=f) h n
   have h2:=h n
   simp only [frN,sumN,List.length_append]
   split <;> simp <;> omega
theorem frP_len (s:ByteArray):∀ x:Pt,(frP s x).length < x.size
 | .nil=>by simp [frP,Pt.size]
 | .mk k s' t lo hi a n cap c=>by
   have:=frN_len (g:=fun i=>frP s (c i)) (hit:=fun i=>hitF s (.mk k s' t lo hi a n cap c) i) (f:=fun i=>preF (.mk k s' t lo hi a n cap c) i) (z:=fun i=>(c i).size) (fun i=>frP_len s (c i)) n
   simp only [frP,Pt.size]
   omega
def isAM (y:Pt):Bool:=decide (y.k = 1) || decide (y.k = 5)
def nmW (l:List Pt):List ByteArray:=(l.filter isAM).map (·.s)
theorem mem_nmW {s:ByteArray} {l:List Pt}:s ∈ nmW l ↔ ∃ y ∈ l,isAM y = true∧y.s = s:=by
 simp only [nmW,List.mem_map,List.mem_filter]
 constructor
 · rintro ⟨y,⟨h1,h2⟩,h3⟩;exact ⟨y,h1,h2,h3⟩
 · rintro ⟨y,h1,h2,h3⟩;exact ⟨y,⟨h1,h2⟩,h3⟩
theorem mem_ndF {f y:Pt}:y ∈ ndF f ↔ ∃ i,i < f.n∧y ∈ ndP (f.c i):=mem_catN
theorem mem_ndP {x y:Pt}:y ∈ ndP x ↔ y = x ∨ ∃ i,i < x.n∧y ∈ ndP (x.c i):=by rw [ndP_eq,List.mem_cons,mem_catN]
def Nle (f g:Pt):Prop:=∀ s,s ∈ nmW (ndF f)→s ∈ nmW (ndF g)
theorem nle_pre (x:Pt) {i j:Nat} (h:i ≤ j):Nle (preF x i) (preF x j):=by
 intro s hs
 obtain ⟨y,h1,h2⟩:=mem_nmW.1 hs
 obtain ⟨q,hq,h3⟩:=mem_ndF.1 h1
 exact mem_nmW.2 ⟨y,mem_ndF.2 ⟨q,Nat.lt_of_lt_of_le hq h,h3⟩,h2⟩
theorem mem_frN {g:Nat→List Pt} {hit:Nat→Bool} {f:Nat→Pt} {y:Pt}:∀ {n:Nat},y ∈ frN g hit f n→∃ i,i < n∧((hit i = true∧y = f i) ∨ y ∈ g i)
 | 0,h=>by simp [frN] at h
 | n + 1,h=>by
   simp only [frN,List.mem_append] at h
   rcases h with h | h | h
   · obtain ⟨i,hi,e⟩:=mem_frN h
     exact ⟨i,by omega,e⟩
   · split at h
     · rename_i hh
       rw [Bool.and_eq_true] at hh
       exact ⟨n,by omega,.inl ⟨hh.1,by simpa using h⟩⟩
     · simp at h
   · exact ⟨n,by omega,.inr h⟩
theorem frN_up {g:Nat→List Pt} {hit:Nat→Bool} {f:Nat→Pt} {y:Pt} {i:Nat}:∀ {n:Nat},i ≤ n→y ∈ frN g hit f i→y ∈ frN g hit f n
 | 0,h,hy=>by
   have e:i = 0:=by omega
   rwa [e] at hy
 | n + 1,h,hy=>by
   by_cases e:i = n + 1
   · rwa [e] at hy
   · simp only [frN,List.mem_append]
     exact .inl (frN_up (by omega) hy)
theorem mem_frA {s:ByteArray} {x y:Pt}:y ∈ frA s x ↔ ∃ i,i < x.n∧((hitF s x i = true∧y = preF x i) ∨ y ∈ frA s (x.c i)):=by
 rw [frA_eq,mem_catN]
 constructor
 · rintro ⟨i,hi,h⟩
   rcases List.mem_append.1 h with h | h
   · split at h
     · rename_i hh;exact ⟨i,hi,.inl ⟨hh,by simpa using h⟩⟩
     · simp at h
   · exact ⟨i,hi,.inr h⟩
 · rintro ⟨i,hi,h | h⟩
   · exact ⟨i,hi,List.mem_append.2 (.inl (by rw [if_pos h.1,h.2];simp))⟩
   · exact ⟨i,hi,List.mem_append.2 (.inr h)⟩
theorem frP_sub {s:ByteArray}:∀ {x y:Pt},y ∈ frP s x→y ∈ frA s x:=by
 refine @(Pt.ind fun x ih y h=>?_)
 rw [frP_eq] at h
 obtain ⟨i,hi,h | h⟩:=mem_frN h
 · exact mem_frA.2 ⟨i,hi,.inl h⟩
 · exact mem_frA.2 ⟨i,hi,.inr (ih i hi h)⟩
theorem frA_in {s:ByteArray}:∀ {x y:Pt},y ∈ frA s x→∀ t,t ∈ nmW (ndF y)→t ∈ nmW (ndF x):=by
 refine @(Pt.ind fun x ih y h t ht=>?_)
 obtain ⟨i,hi,h | h⟩:=mem_frA.1 h
 · rw [h.2] at ht
   obtain ⟨z,h1,h2⟩:=mem_nmW.1 ht
   obtain ⟨q,hq,h3⟩:=mem_ndF.1 h1
   exact mem_nmW.2 ⟨z,mem_ndF.2 ⟨q,Nat.lt_trans hq hi,h3⟩,h2⟩
 · obtain ⟨z,h1,h2⟩:=mem_nmW.1 (ih i hi h t ht)
   obtain ⟨q,hq,h3⟩:=mem_ndF.1 h1
   exact mem_nmW.2 ⟨z,mem_ndF.2 ⟨i,hi,mem_ndP.2 (.inr ⟨q,hq,h3⟩)⟩,h2⟩
theorem frA_over {s:ByteArray}:∀ {x y:Pt},y ∈ frA s x→∃ g ∈ frP s x,Nle g y:=by
 refine @(Pt.ind fun x ih y h=>?_)
 obtain ⟨i,hi,h | h⟩:=mem_frA.1 h
 · obtain ⟨hh,rfl⟩:=h
   rw [frP_eq]
   cases e:frN (fun i=>frP s (x.c i)) (hitF s x) (preF x) i with
   | nil=>exact ⟨preF x i,frN_up (i:=i + 1) (by omega) (by simp [frN,hh,e]),fun _ h=>h⟩
   | cons g r =>
     have hg:g ∈ frN (fun i=>frP s (x.c i)) (hitF s x) (preF x) i:=by rw [e];simp
     refine ⟨g,frN_up (by omega) hg,?_⟩
     obtain ⟨j,hj,h | h⟩:=mem_frN hg
     · rw [h.2];exact nle_pre x (by omega)
     · intro t ht
       obtain ⟨z,h1,h2⟩:=mem_nmW.1 (frA_in (frP_sub h) t ht)
       obtain ⟨q,hq,h3⟩:=mem_ndF.1 h1
       exact mem_nmW.2 ⟨z,mem_ndF.2 ⟨j,hj,mem_ndP.2 (.inr ⟨q,hq,h3⟩)⟩,h2⟩
 · obtain ⟨g,hg,hle⟩:=ih i hi h
   refine ⟨g,?_,hle⟩
   rw [frP_eq]
   exact frN_up (i:=i + 1) (by omega) (by simp [frN,hg])
def aheadL (s:ByteArray) (x:Pt):List ByteArray :=
 match frA s x with
 | []=>[]
 | f :: r=>(intoAll [] (nmW (ndF f))).filter fun t=>r.all fun g=>memB (nmW (ndF g)) t
theorem sorted_filter (p:ByteArray→Bool):∀ l:List ByteArray,Sorted l→Sorted (l.filter p)
 | [],_=>trivial
 | a :: l,h=>by
   have ih:=sorted_filter p l h.2
   by_cases hp:p a = true
   · rw [List.filter_cons_of_pos hp]
     exact ⟨fun b hb=>h.1 b (List.mem_filter.1 hb).1,ih⟩
   · rw [List.filter_cons_of_neg hp];exact ih
theorem aheadL_sorted (s:ByteArray) (x:Pt):Sorted (aheadL s x):=by
 unfold aheadL
 split
 · trivial
 · exact sorted_filter _ _ (sorted_intoAll _ _ trivial)
theorem mem_aheadL {s t:ByteArray} {x:Pt}:t ∈ aheadL s x ↔ frA s x ≠ []∧∀ g ∈ frA s x,t ∈ nmW (ndF g):=by
 unfold aheadL
 cases e:frA s x with
 | nil=>simp
 | cons f r =>
   simp only [List.mem_filter,mem_intoAll,List.all_eq_true,memB_iff]
   simp
theorem mem_ahead {s t:ByteArray} {x:Pt}:t ∈ aheadL s x ↔ frP s x ≠ []∧∀ g ∈ frP s x,t ∈ nmW (ndF g):=by
 rw [mem_aheadL]
 constructor
 · rintro ⟨h1,h2⟩
   obtain ⟨y,hy⟩:=List.exists_mem_of_ne_nil _ h1
   obtain ⟨g,hg,_⟩:=frA_over hy
   exact ⟨List.ne_nil_of_mem hg,fun g hg=>h2 g (frP_sub hg)⟩
 · rintro ⟨h1,h2⟩
   obtain ⟨y,hy⟩:=List.exists_mem_of_ne_nil _ h1
   refine ⟨List.ne_nil_of_mem (frP_sub hy),fun g hg=>?_⟩
   obtain ⟨q,hq,hle⟩:=frA_over hg
   exact hle t (h2 q hq)
def gapN (L:List Pt) (s:ByteArray):Nat→Nat
 | 0=>0
 | k + 1=>if gapN L s k = k∧memB (nmW (ndF (L.getD k .nil))) s = true then k + 1 else gapN L s k
theorem gapN_le (L:List Pt) (s:ByteArray):∀ k,gapN L s k ≤ k
 | 0=>Nat.le_refl _
 | k + 1=>by
   have:=gapN_le L s k
   simp only [gapN]
   split <;> omega
theorem gapN_full {L:List Pt} {s:ByteArray}:∀ {k:Nat},gapN L s k = k ↔ ∀ i,i < k→s ∈ nmW (ndF (L.getD i .nil))
 | 0=>by simp [gapN]
 | k + 1=>by
   have h1:=gapN_le L s k
   have h2:=gapN_full (L:=L) (s:=s) (k:=k)
   simp only [gapN]
   constructor
   · intro h i hi
     split at h
     · rename_i hh
       by_cases e:i = k
       · rw [e];exact memB_iff.1 hh.2
       · exact h2.1 hh.1 i (by omega)
     · omega
   · intro h
     rw [if_pos ⟨h2.2 fun i hi=>h i (by omega),memB_iff.2 (h k (by omega))⟩]
def gapM (L:List Pt) (k:Nat) (pre:List Pt) (s:ByteArray):Nat:=if gapN L s k = k∧memB (nmW pre) s = true then k + 1 else gapN L s k
theorem gapM_nil (L:List Pt) (k:Nat) (s:ByteArray):gapM L k [] s = gapN L s k:=by simp [gapM,nmW,memB]
theorem memB_snoc (l:List Pt) (y:Pt) (s:ByteArray):memB (nmW (l ++ [y])) s = (memB (nmW l) s || (isAM y && decide (y.s = s))):=by
 rw [Bool.eq_iff_iff,memB_iff,Bool.or_eq_true,memB_iff,mem_nmW,mem_nmW]
 constructor
 · rintro ⟨z,hz,h1,h2⟩
   rcases List.mem_append.1 hz with h | h
   · exact .inl ⟨z,h,h1,h2⟩
   · rw [List.mem_singleton] at h
     subst h
     exact .inr (by rw [h1,h2];simp)
 · rintro (⟨z,hz,h1,h2⟩ | h)
   · exact ⟨z,List.mem_append.2 (.inl hz),h1,h2⟩
   · rw [Bool.and_eq_true] at h
     exact ⟨y,by simp,h.1,by simpa using h.2⟩
theorem gapM_skip {L:List Pt} {k:Nat} {pre:List Pt} {y:Pt} (h:isAM y = false ∨ gapM L k pre y.s ≠ k) (s:ByteArray):gapM L k (pre ++ [y]) s = gapM L k pre s:=by
 unfold gapM
 rw [memB_snoc]
 rcases h with h | h
 · simp [h]
 · by_cases e:y.s = s
   · subst e
     unfold gapM at h
     by_cases h1:gapN L y.s k = k
     · cases h2:memB (nmW pre) y.s with
       | true=>simp [h1]
       | false=>rw [if_neg (by simp [h2])] at h;exact absurd h1 h
     · simp [h1]
   · simp [e]
theorem gapM_hit {L:List Pt} {k:Nat} {pre:List Pt} {y:Pt} (h:isAM y = true) (hk:gapM L k pre y.s = k) (s:ByteArray):gapM L k (pre ++ [y]) s = if s = y.s then k + 1 else gapM L k pre s:=by
 have h1:gapN L y.s k = k:=by
  have:=gapN_le L y.s k
  unfold gapM at hk
  split at hk <;> omega
 unfold gapM
 rw [memB_snoc]
 by_cases e:s = y.s
 · subst e
   simp [h,h1]
 · have e':¬ y.s = s:=fun q=>e q.symm
   simp [e,e']
end Go.Proofs.YtkfpgkohkhhlhaaGreatDoor
