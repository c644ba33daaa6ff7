/- Texts that the last one stands on. -/
import Derived.Test.YtkfpgkohkhhlhaaGreatDoorSIterLays
import Derived.Test.YtkfpgkohkhhlhaaGreatDoorSPatVars
import Derived.Test.YtkfpgkohkhhlhaaGreatDoorSVarsMath
set_option maxRecDepth 100000
set_option maxHeartbeats 4000000
namespace Go.Proofs.YtkfpgkohkhhlhaaGreatDoor
open Go.RowKit
structure It where
 nm:ByteArray
 k:Int
 s:ByteArray
 f:ByteArray
abbrev It.val (x:It):Value:=.agg #[.string x.nm,.int .i64 x.k,.string x.s,.string x.f]
def ItAt (w:World) (b o:Nat) (x:It):Prop :=
 w.cell? ⟨b,o,none⟩ = some (.string x.nm)∧w.cell? ⟨b,o + 1,none⟩ = some (.int .i64 x.k)∧w.cell? ⟨b,o + 2,none⟩ = some (.string x.s)∧w.cell? ⟨b,o + 3,none⟩ = some (.string x.f)
theorem ItAt.lt {w:World} {b o:Nat} {x:It} (h:ItAt w b o x):b < w.heap.size:=World.block_lt_of_cell? w _ h.1
theorem ItAt.later {w w':World} {b o:Nat} {x:It} (h:ItAt w b o x) (hB:Below w.heap.size w w'):ItAt w' b o x :=
 ⟨cell_later h.1 hB,cell_later h.2.1 hB,cell_later h.2.2.1 hB,cell_later h.2.2.2 hB⟩
theorem itAt_box {w:World} {B:Nat} {t:TypeId} {x:It} (h:w.heap[B]? = some (.cells #[.string x.nm,.int .i64 x.k,.string x.s,.string x.f] t (0,0))):ItAt w B 0 x:=by
 refine ⟨?_,?_,?_,?_⟩ <;> simp [World.cell?,h]
def Its (w:World) (a:Option Addr) (n:Nat) (I:Nat→It):Prop:=∀ i,i < n→∃ b o,a = some ⟨b,o,none⟩∧ItAt w b (o + i * 4) (I i)
theorem Its.later {w w':World} {a:Option Addr} {n:Nat} {I:Nat→It} (h:Its w a n I) (hB:Below w.heap.size w w'):Its w' a n I:=fun i hi=>by
 obtain ⟨b,o,e,hc⟩:=h i hi
 exact ⟨b,o,e,hc.later hB⟩
structure Qy where
 p:Pt
 a:Option Addr
 n:Nat
 cap:Nat
 c:Nat→X
 key:ByteArray
 mode:Int
 win:Int
 ia:Option Addr
 m:Nat
 icap:Nat
 it:Nat→It
abbrev Qy.x (q:Qy):X:=.mk 16 val0 ⟨#[]⟩ ⟨#[]⟩ q.a q.n q.cap q.c
abbrev Qy.cells (q:Qy):Array Value:=#[.int .i64 q.p.k,.string q.p.s,.string q.p.t,.int .i64 q.p.lo,.int .i64 q.p.hi,.slice q.p.a q.p.n q.p.cap,.slice q.a q.n q.cap,.string q.key,.int .i64 q.mode,.int .i64 q.win,.slice q.ia q.m q.icap]
abbrev Qy.val (q:Qy):Value:=.agg q.cells
structure IsQ (w:World) (q:Qy):Prop where
 p:IsP w q.p
 x:IsX w q.x
 it:Its w q.ia q.m q.it
 len:q.m ≤ q.icap∧q.icap ≤ 9223372036854775807
theorem IsQ.later {w w':World} {q:Qy} (h:IsQ w q) (hB:Below w.heap.size w w'):IsQ w' q:=⟨h.p.later hB,h.x.later hB,h.it.later hB,h.len⟩
structure QOk (q:Qy):Prop where
 p:POk q.p
 x:XOk q.x
 key:q.key.size ≤ maxLen
 it:∀ i,i < q.m→(q.it i).nm.size ≤ maxLen∧(q.it i).s.size ≤ maxLen∧(q.it i).f.size ≤ maxLen
def Qy.bulk (q:Qy):Nat:=q.p.size + q.x.size + q.m
abbrev It.cells (x:It):Array Value:=#[.string x.nm,.int .i64 x.k,.string x.s,.string x.f]
def QB (W:World) (b:Nat) (q:Qy):Prop:=W.heap[b]? = some (.cells q.cells 29 (0,0))
theorem QB.at0 {W:World} {b:Nat} {q:Qy} (h:QB W b q):(W.cell? ⟨b,0,none⟩ = some (.int .i64 q.p.k)∧W.cell? ⟨b,1,none⟩ = some (.string q.p.s)∧W.cell? ⟨b,2,none⟩ = some (.string q.p.t)∧W.cell? ⟨b,3,none⟩ = some (.int .i64 q.p.lo) ∧
 W.cell? ⟨b,4,none⟩ = some (.int .i64 q.p.hi)∧W.cell? ⟨b,5,none⟩ = some (.slice q.p.a q.p.n q.p.cap))∧W.cell? ⟨b,6,none⟩ = some (.slice q.a q.n q.cap)∧W.cell? ⟨b,7,none⟩ = some (.string q.key)∧W.cell? ⟨b,8,none⟩ = some (.int .i64 q.mode) ∧
 W.cell? ⟨b,9,none⟩ = some (.int .i64 q.win)∧W.cell? ⟨b,10,none⟩ = some (.slice q.ia q.m q.icap):=by
 unfold QB at h
 refine ⟨⟨?_,?_,?_,?_,?_,?_⟩,?_,?_,?_,?_,?_⟩ <;> simp [World.cell?,h]
theorem QB.frozen {W:World} {b:Nat} {q:Qy} (h:QB W b q) (j:Nat):W.frozen? ⟨b,j,none⟩ = false:=by
 unfold QB at h
 simp [World.frozen?,h]
theorem QB.lt {W:World} {b:Nat} {q:Qy} (h:QB W b q):b < W.heap.size:=(Array.getElem?_eq_some_iff.1 h).1
theorem QB.later {W W':World} {b:Nat} {q:Qy} (h:QB W b q) (hB:Below W.heap.size W W'):QB W' b q:=(hB.block b h.lt).trans h
theorem QB.new (W:World) (q:Qy):QB (W.alloc (.cells q.cells 29)) W.heap.size q:=alloc_new W _
theorem joined_any (a:Option Addr) (n cap:Nat) (c:Nat→X) (w:World):Calls Tryz.prog 60 #[.slice a n cap] w fun e w'=>e = .returned (X.mk 16 val0 ⟨#[]⟩ ⟨#[]⟩ a n cap c).val∧Below w.heap.size w w':=by
 go_enter Tryz.func60,Tryz.ntmps60
 go_wp2
 exact bodyPost_ret (v:=(X.mk 16 val0 ⟨#[]⟩ ⟨#[]⟩ a n cap c).val) (by simp [results,Tryz.results60,go_sem];exact ⟨rfl,rfl,rfl,rfl,rfl,rfl,rfl,rfl,rfl⟩) rfl ⟨rfl,nwB _ _⟩
open Go.Maps Go.Sort Go.Shelf
theorem sorts_wide (m:Nat):AnyZ.SortsIn Tryz.prog Tryz.sorted38_ren Fence.wide m :=
 ⟨fun blk off cap ss W hH hblk hsz=>callsIn_wide.2 (AnyM.slices_Sort_string Tryz.sort92 blk off cap ss W hH hblk hsz),
  fun p cap W=>callsIn_wide.2 (AnyM.slices_Sort_string_none Tryz.sort92 p cap W)⟩
theorem keysM_any (mb:Option Nat) (W:World):Calls Tryz.prog 61 #[.map mb] W fun e w'=>e = .returned (.func (.func 109) #[] #[.pointer (some ⟨W.heap.size,0,none⟩)])∧w' = W.alloc (.cells #[.map mb] 106) :=
 (callsIn_wide (n:=5)).1 (AnyZ.keys_in Tryz.keys61 Fence.wide 5 trivial rfl mb W)
theorem sortedM_any {H:Type} (b nn:Nat) (D0:DataW H) (R:Value→Option (DataW H × List MemPlace)) (w:World) (hown:w.ownsMap Tryz.prog 9 R b nn D0) (hmax:Maps.size D0 ≤ maxLen) (hbytes:Maps.size D0 * 16 ≤ 140737488355328) :
 Calls Tryz.prog 38 #[.func (.func 109) #[] #[.pointer (some ⟨w.heap.size,0,none⟩)]] (w.alloc (.cells #[.map (some b)] 106)) fun e w'=>∃ (v:Value) (ss:List (List UInt8)),e = .returned v∧ss.Perm (strKeys D0) ∧
  w'.ownsRow (w.alloc (.cells #[.map (some b)] 106)).heap.size 9 1 v ss.length ((sortB ss).map encStr)∧Below (w.alloc (.cells #[.map (some b)] 106)).heap.size (w.alloc (.cells #[.map (some b)] 106)) w':=by
 have hbl:=hown.lt
 have hseq:SeqGives Fence.wide 2 Tryz.prog 109 #[.pointer (some ⟨w.heap.size,0,none⟩)] encStr (fun ss=>ss.Perm (strKeys D0)) (Maps.size D0) (w.alloc (.cells #[.map (some b)] 106)) :=
  AnyZ.keys_gives (ρ:=Tryz.keys61_ren) { Tryz.keys61 with } Fence.wide _ trivial rfl (by omega) w.heap.size b nn D0 _ (by simp) (by simp) (by
   obtain ⟨es,clock,hb,Ft,hs,hD⟩:=hown
   exact ⟨es,clock,(Below.heap_alloc _ _ b hbl).trans hb,Ft,hs,hD⟩)
 refine ((callsIn_wide (n:=5)).1 (AnyZ.sorted_in Tryz.sorted38 Fence.wide 5 trivial trivial trivial trivial rfl (by omega) (sorts_wide _) (enters_of Tryz.func92 (by kernel_rfl) rfl) 109 #[.pointer (some ⟨w.heap.size,0,none⟩)] trivial (enters_of Tryz.func109 (by kernel_rfl) rfl) _ _ hmax hbytes _ hseq)).mono ?_
 rintro e w' ⟨v,ss,rfl,h1,h2,_,h3⟩
 exact ⟨v,ss,rfl,h1,h2,h3⟩
theorem sorted_keys {w:World} {b n:Nat} {R:Value→Option (DataW Unit × List MemPlace)} {D:DataW Unit} (hown:w.ownsMap Tryz.prog 9 R b n D) {L:List ByteArray} (hL:Sorted L) (hm:∀ s,s ∈ L ↔ Maps.has D (keyS s) = true) {ss:List (List UInt8)} (hp:ss.Perm (strKeys D)) :
 (sortB ss).map encStr = cellsS L∧ss.length = L.length:=by
 have hnd:=sorted_nodup L hL
 have hbs:∀ x:List UInt8,x ∈ L.map bs ↔ (⟨x.toArray⟩:ByteArray) ∈ L:=fun x=>by
  rw [List.mem_map]
  constructor
  · rintro ⟨s,hs,rfl⟩
    rw [bs_mk];exact hs
  · intro h
    exact ⟨_,h,mk_bs x⟩
 have hc:Collected D (fun _=>false) (L.map bs):=by
  refine ⟨?_,fun x=>?_⟩
  · refine List.pairwise_map.2 (List.Pairwise.imp (fun {a c} h e=>h ?_) hnd)
    rw [← bs_mk a,← bs_mk c,e]
  · rw [hbs,hm]
    simp
 have hp2:ss.Perm (L.map bs):=hp.trans (hc.perm hown str_law Tryz.underlying9 (fun _=>rfl)).symm
 refine ⟨?_,by rw [hp2.length_eq,List.length_map]⟩
 have e1:sortB ss = sortB (L.map bs):=mergeSort_of_perm hp2
 have h1:=sortB_le (L.map bs)
 have h2:(sortB (L.map bs)).Nodup:=(List.mergeSort_perm (L.map bs) _).nodup_iff.2 hc.1
 have h3:(sortB (L.map bs)).Pairwise fun x y=>Op.bytesLess x y = true:=by
  refine List.Pairwise.imp (fun {x y} h=>?_) (List.pairwise_and_iff.2 ⟨h1,h2⟩)
  obtain ⟨g1,g2⟩:=h
  have hx:x = (⟨x.toArray⟩:ByteArray).toList:=by rw [bs_list,mk_bs]
  have hy:y = (⟨y.toArray⟩:ByteArray).toList:=by rw [bs_list,mk_bs]
  rcases cmpS_cases ⟨x.toArray⟩ ⟨y.toArray⟩ with ⟨_,q,_⟩ | ⟨_,q⟩ | ⟨_,q,_⟩
  · rw [← hx,← hy] at q;exact q
  · rw [← hx,← hy] at q;exact absurd q g2
  · rw [← hx,← hy] at q;rw [q] at g1;cases g1
 have h4:=sorted_of _ h3
 have h5:(sortB (L.map bs)).map (fun x=>(⟨x.toArray⟩:ByteArray)) = L:=by
  refine sorted_one _ _ h4 hL fun s=>?_
  rw [List.mem_map]
  constructor
  · rintro ⟨x,hx,rfl⟩
    exact (hbs x).1 ((sortB_mem _ x).1 hx)
  · intro h
    exact ⟨bs s,(sortB_mem _ _).2 (List.mem_map.2 ⟨s,h,rfl⟩),bs_mk s⟩
 rw [e1,cellsS]
 conv=>rhs;rw [← h5]
 rw [List.map_map]
 rfl
open Go.WideMaps
def namesP (x:Pt):List ByteArray:=(firstL (usesP x)).map (·.s)
def allV (q:Qy):List ByteArray:=(namesP q.p ++ varsX q.x) ++ lstS (fun i=>(q.it i).s) q.m
def namesQ (q:Qy):List ByteArray:=intoAll [] (allV q)
theorem namesQ_mem (q:Qy) (s:ByteArray):s ∈ namesQ q ↔ s ∈ allV q:=by rw [namesQ,mem_intoAll];simp
theorem namesQ_sorted (q:Qy):Sorted (namesQ q):=sorted_intoAll _ _ trivial
structure Hs (L:List ByteArray) (D:DataW Unit):Prop where
 has:∀ s,Maps.has D (keyS s) = true ↔ s ∈ L
 le:Maps.size D ≤ L.length
theorem hs_none:Hs [] (.map []):=⟨fun s=>by simp [Maps.has_eq],Nat.le_refl _⟩
theorem Hs.more {L:List ByteArray} {D:DataW Unit} (h:Hs L D) (hm:IsMap D) (ht:Tidy D) (s:ByteArray) (d:DataW Unit):Hs (L ++ [s]) (D.put (keyS s) d):=by
 refine ⟨fun t=>?_,?_⟩
 · by_cases e:s = t
   · subst e
     rw [has_put_same hm (by simp [WideAt.IsKeyLit])]
     simp
   · rw [has_put_other (keyS_ne fun q=>e q.symm),h.has]
     simp [show ¬ t = s from fun q=>e q.symm]
 · rw [size_put (k:=keyS s) ht d,List.length_append]
   have:=h.le
   split <;> simp <;> omega
abbrev RU:Value→Option (DataW Unit × List MemPlace):=fun _=>some (.nil,[])
theorem Lb.grown {N M:Nat} {W W':World} (h:W.grownBy W' (some M)) (hN:N ≤ W.heap.size):Lb N M W W' :=
 ⟨h.os,h.tape,h.output,h.size,fun k hk hne=>h.block k (by omega) fun e=>hne (by cases e;rfl)⟩
theorem push_strs {w:World} {base:Nat} {v:Value} {l:List ByteArray} (h:w.ownsRow base 9 1 v l.length (cellsS l)) (hb:base ≤ w.heap.size) (a:Option Addr) (m k:Nat) (S:Nat→ByteArray) (hT:Txs w a m S) (hn:l.length + m ≤ 16777216) :
 ∃ v' w',(Builtin.append_ #[37,37] 37 #[v,.slice a m k]).run Tryz.prog w = .ok v' w'∧w'.ownsRow base 9 1 v' (l ++ lstS S m).length (cellsS (l ++ lstS S m))∧w.grownBy w' v.ownBlock:=by
 obtain ⟨i0,hi,hz0,hz1,hz2⟩:=info_parts infoS
 have hcs:cellsS (l ++ lstS S m) = cellsS l ++ cellsS (lstS S m):=by simp [cellsS]
 have hll:(cellsS (lstS S m)).length = m * 1:=by simp [cellsS,lstS_len]
 rw [List.length_append,lstS_len,hcs]
 cases a with
 | some p =>
   obtain ⟨v',w',hrun,hown',hgrow,_⟩:=run_append_own (P:=Tryz.prog) (w:=w) base 37 37 9 i0 (.string ⟨#[]⟩) 1 16 Tryz.underlying37 hi hz0 hz1 hz2 rfl (by decide) v _ _ h p m k (cellsS (lstS S m)) hll
    (fun j u hu=>by
      have hj:j < m:=by have:=(List.getElem?_eq_some_iff.1 hu).1;rw [hll] at this;omega
      obtain ⟨b,o,e,hc⟩:=hT (by omega)
      cases e
      have hj':(lstS S m)[j]? = some (S j):=by
       have:∀ n,j < n→(lstS S n)[j]? = some (S j):=by
        intro n
        induction n with
        | zero=>intro h;omega
        | succ n ih =>
          intro h
          rw [lstS]
          by_cases e:j = n
          · subst e
            rw [List.getElem?_append_right (by rw [lstS_len];omega),lstS_len]
            simp
          · rw [List.getElem?_append_left (by rw [lstS_len];omega)]
            exact ih (by omega)
       exact this m hj
      rw [cellsS,List.getElem?_map,hj'] at hu
      cases hu
      rw [add_none]
      exact hc j hj) (fun u hu=>by simp [cellsS] at hu;obtain ⟨s,_,rfl⟩:=hu;rfl) (by unfold maxLen;omega) (by omega) hb
   exact ⟨v',w',hrun,hown',hgrow⟩
 | none =>
   have h0:m = 0:=by
    by_cases h0:0 < m
    · obtain ⟨b,o,e,_⟩:=hT h0
      cases e
    · omega
   subst h0
   refine ⟨v,w,?_,by simpa [lstS,cellsS] using h,⟨rfl,rfl,rfl,Nat.le_refl _,fun _ _ _=>rfl⟩⟩
   obtain ⟨a,cap,rfl,-,-,h1⟩:=own_txs h
   have ht:Tryz.prog.underlying 37 = some (.slice 9):=Tryz.underlying37
   cases a <;> simp [Builtin.append_,run_underlying ht,sizeOf,typeInfo,hi,Builtin.lenOf,Builtin.firstCells,h1,storeCells]
theorem has_ok {s:ByteArray}:∀ {x:X},XOk x→hasVar s x→s.size ≤ maxLen:=by
 refine @(X.ind fun x ih hok h=>?_)
 rw [xOk_eq] at hok
 rcases (hasVar_eq s x).1 h with ⟨_,rfl⟩ | ⟨i,hi,h⟩
 · exact hok.1
 · exact ih i hi (hok.2.2 i hi) h
theorem allV_ok {q:Qy} (hok:QOk q):∀ s ∈ allV q,s.size ≤ maxLen:=by
 intro s hs
 rw [allV,List.mem_append,List.mem_append] at hs
 rcases hs with (hs | hs) | hs
 · obtain ⟨y,hy,rfl⟩:=List.mem_map.1 hs
   exact (uses_ok hok.p y (mem_firstL hy)).1
 · exact has_ok hok.x ((mem_vars _ _).1 hs)
 · obtain ⟨j,hj,rfl⟩:=(lstS_mem _ _ _).1 hs
   exact (hok.it j hj).2.1
theorem uses_len:∀ x:Pt,(usesP x).length ≤ x.size:=by
 refine Pt.ind fun x ih=>?_
 rw [usesP_eq,x.size_eq,List.length_append]
 have h1:(catN (fun i=>usesP (x.c i)) x.n).length ≤ sumN (fun i=>(x.c i).size) x.n:=by
  have:∀ n,n ≤ x.n→(catN (fun i=>usesP (x.c i)) n).length ≤ sumN (fun i=>(x.c i).size) n:=by
   intro n
   induction n with
   | zero=>intro _;exact Nat.le_refl _
   | succ n ihn=>intro h;rw [catN,sumN,List.length_append];have:=ih n (by omega);have:=ihn (by omega);omega
  exact this _ (Nat.le_refl _)
 split <;> simp <;> omega
theorem namesP_len (x:Pt):(namesP x).length ≤ x.size:=by
 rw [namesP,List.length_map]
 exact Nat.le_trans (length_firstL _) (uses_len x)
theorem qat0 {W:World} {b:Nat} {q:Qy} {t:TypeId} (h:W.heap[b]? = some (.cells q.cells t (0,0))):(W.cell? ⟨b,0,none⟩ = some (.int .i64 q.p.k)∧W.cell? ⟨b,1,none⟩ = some (.string q.p.s)∧W.cell? ⟨b,2,none⟩ = some (.string q.p.t)∧W.cell? ⟨b,3,none⟩ = some (.int .i64 q.p.lo) ∧
 W.cell? ⟨b,4,none⟩ = some (.int .i64 q.p.hi)∧W.cell? ⟨b,5,none⟩ = some (.slice q.p.a q.p.n q.p.cap))∧W.cell? ⟨b,6,none⟩ = some (.slice q.a q.n q.cap)∧W.cell? ⟨b,7,none⟩ = some (.string q.key)∧W.cell? ⟨b,8,none⟩ = some (.int .i64 q.mode) ∧
 W.cell? ⟨b,9,none⟩ = some (.int .i64 q.win)∧W.cell? ⟨b,10,none⟩ = some (.slice q.ia q.m q.icap):=by
 refine ⟨⟨?_,?_,?_,?_,?_,?_⟩,?_,?_,?_,?_,?_⟩ <;> simp [World.cell?,h]
open Classical in
noncomputable def chkX (x:X):Int:=if 100 < x.size then 2 else if TreeR x then 0 else 1
theorem chkX_of {x:X} {r:Int} (h:ChkX x r):r = chkX x:=by
 unfold chkX
 rcases h with ⟨h1,h2⟩ | ⟨h1,h2,h3⟩ | ⟨h1,h2,h3⟩
 · rw [if_pos h1];exact h2
 · rw [if_neg (by omega),if_pos h2];exact h3
 · rw [if_neg (by omega),if_neg h2];exact h3
def rightI (x:It):Bool:=nameB x.nm && (nameB x.s && (decide (1 ≤ x.k) && (decide (x.k ≤ 4) && (if x.k = 3 then decide (x.f = ⟨#[]⟩) else nameB x.f))))
def ItemsR (q:Qy) (n:Nat):Prop:=(∀ i,i < n→rightI (q.it i) = true)∧∀ i,i < n→∀ j,j < i→(q.it j).nm ≠ (q.it i).nm
def argB (b:Bool):Int:=if b = true then 0 else 1
def cl1 (q:Qy):Int:=chkP q.p
def cl2 (q:Qy):Int:=if 16 < q.n ∨ 16 < q.m then 2 else 0
noncomputable def cl3 (q:Qy):Int:=lexN (fun i=>chkX (q.c i)) q.n
def cl4 (q:Qy):Int:=if 100 < q.x.size then 2 else 0
open Classical in
noncomputable def cl5 (q:Qy):Int:=if ∃ i,i < q.n∧(q.c i).k = 16 then 1 else 0
def cl6 (q:Qy):Int:=argB (decide (q.key = ⟨#[]⟩) || nameB q.key)
def cl7 (q:Qy):Int:=argB (decide (0 ≤ q.mode) && decide (q.mode ≤ 2))
def cl8 (q:Qy):Int:=argB (decide (0 ≤ q.win) && decide (q.win ≤ 1099511627776))
open Classical in
noncomputable def cl9 (q:Qy):Int:=if ItemsR q q.m then 0 else 1
theorem argument_any (b:Bool) (w:World):Calls Tryz.prog 100 #[.bool b] w (RV (.int .i64 (argB b)) w):=by
 cases b
 · go_enter Tryz.func100,Tryz.ntmps100
   go_wp2
   go_ret
   exact ⟨rfl,Below.refl _ _⟩
 · go_enter Tryz.func100,Tryz.ntmps100
   go_wp2
   go_ret
   exact ⟨rfl,Below.refl _ _⟩
theorem cl1_any (q:Qy) (w:World) (hQ:IsQ w q) (_:QOk q) (hsm:q.bulk ≤ 1048576):Calls Tryz.prog 45 #[q.val] w (RV (.int .i64 (cl1 q)) w):=by
 have hb:=hsm
 unfold Qy.bulk at hb
 have hB:Below w.heap.size w (w.alloc (.cells q.cells 95)):=nwB w _
 have hx0:=alloc_new w (.cells q.cells 95)
 obtain ⟨⟨k0,k1,k2,k3,k4,k5⟩,k6,k7,k8,k9,k10⟩:=qat0 hx0
 have HB:=hid hB
 have C1:Hid (Calls Tryz.prog 54 #[q.p.val] (w.alloc (.cells q.cells 95)) _):=checkP_any q.p _ (hQ.p.later hB) (by omega)
 clear hQ hsm hB hx0
 go_enter Tryz.func45,Tryz.ntmps45
 go_wp2_with (first | (go_at_call 54;refine C1.out.mono ?_;rintro e w1 ⟨rfl,hB1⟩))
 go_ret
 exact ⟨rfl,HB.out.trans (hB1.mono HB.out.size)⟩
theorem cl2_any (q:Qy) (w:World) (_:IsQ w q) (_:QOk q) (hsm:q.bulk ≤ 1048576):Calls Tryz.prog 46 #[q.val] w (RV (.int .i64 (cl2 q)) w):=by
 have hb:=hsm
 unfold Qy.bulk at hb
 have hB:Below w.heap.size w (w.alloc (.cells q.cells 95)):=nwB w _
 have hx0:=alloc_new w (.cells q.cells 95)
 obtain ⟨⟨k0,k1,k2,k3,k4,k5⟩,k6,k7,k8,k9,k10⟩:=qat0 hx0
 have HB:=hid hB
 have HR:Hid (∀ h1:16 < q.n,cl2 q = 2):=fun h1=>if_pos (.inl h1)
 have HR2:Hid (∀ h1:16 < q.m,cl2 q = 2):=fun h1=>if_pos (.inr h1)
 have HR3:Hid (∀ (h1:¬ 16 < q.n) (h2:¬ 16 < q.m),cl2 q = 0):=fun h1 h2=>if_neg (by omega)
 obtain ⟨v,hv⟩:∃ v,v = cl2 q:=⟨_,rfl⟩
 rw [← hv] at HR HR2 HR3 ⊢
 clear hsm hB hx0 hv
 by_cases h1:16 < q.n
 · rw [HR.out h1]
   clear HR HR2 HR3
   have t1:((16:Int) < ((q.n:Nat):Int)):=by omega
   clear h1
   go_enter Tryz.func46,Tryz.ntmps46
   go_wp2
   go_ret
   exact ⟨rfl,HB.out⟩
 · have t1:¬ ((16:Int) < ((q.n:Nat):Int)):=by omega
   by_cases h2:16 < q.m
   · rw [HR2.out h2]
     clear HR HR2 HR3
     have t2:((16:Int) < ((q.m:Nat):Int)):=by omega
     clear h1 h2
     go_enter Tryz.func46,Tryz.ntmps46
     go_wp2
     go_ret
     exact ⟨rfl,HB.out⟩
   · rw [HR3.out h1 h2]
     clear HR HR2 HR3
     have t2:¬ ((16:Int) < ((q.m:Nat):Int)):=by omega
     clear h1 h2
     go_enter Tryz.func46,Tryz.ntmps46
     go_wp2
     go_ret
     exact ⟨rfl,HB.out⟩
theorem nil_list:(⟨#[]⟩:ByteArray).toList = []:=by rw [ByteArray.toList_eq]
theorem no_empty {s:ByteArray} (h:¬ s = ⟨#[]⟩):(s.toList == []) = false:=by
 have:=str_not h
 rwa [nil_list] at this
theorem lexN_first {f:Nat→Int}:∀ {n k:Nat},k < n→(∀ j,j < k→f j = 0)→f k ≠ 0→lexN f n = f k
 | 0,_,h,_,_=>by omega
 | n + 1,k,h,hz,hk=>by
   rw [lexN]
   by_cases e:k = n
   · subst e
     rw [if_pos (lexN_zero.2 hz)]
   · have:=lexN_first (f:=f) (show k < n by omega) hz hk
     rw [this,if_neg hk]
theorem cl3_any (q:Qy) (w:World) (hQ:IsQ w q) (_:QOk q) (hsm:q.bulk ≤ 1048576):Calls Tryz.prog 47 #[q.val] w (RV (.int .i64 (cl3 q)) w):=by
 have hb:=hsm
 unfold Qy.bulk at hb
 have hB:Below w.heap.size w (w.alloc (.cells q.cells 95)):=nwB w _
 have hx0:=alloc_new w (.cells q.cells 95)
 obtain ⟨⟨k0,k1,k2,k3,k4,k5⟩,k6,k7,k8,k9,k10⟩:=qat0 hx0
 have HB:=hid hB
 have HI:Hid (∀ i,i < q.n→∀ W,Below w.heap.size w W→Calls Tryz.prog 98 #[(q.c i).val] W (RV (.int .i64 (chkX (q.c i))) W)):=fun i hi W hW=>by
  obtain ⟨_,_,_,_,h1⟩:=(hQ.x.later hW).part (x:=q.x) hi
  refine (checkX_any _ W h1).mono ?_
  rintro e w' ⟨r,rfl,h2,h3⟩
  have h2':ChkX (q.c i) r:=h2
  rw [← chkX_of h2']
  exact ⟨rfl,h3⟩
 have HF:Hid (∀ k,k < q.n→(∀ j,j < k→chkX (q.c j) = 0)→¬ chkX (q.c k) = 0→cl3 q = chkX (q.c k)):=fun k hk hz hn=>lexN_first (f:=fun i=>chkX (q.c i)) hk hz hn
 have HZ:Hid ((∀ j,j < q.n→chkX (q.c j) = 0)→cl3 q = 0):=fun h=>lexN_zero.2 h
 obtain ⟨v,hv⟩:∃ v,v = cl3 q:=⟨_,rfl⟩
 rw [← hv] at HF HZ ⊢
 have HX:Hid (IsX w q.x):=hQ.x
 have hlen:q.n ≤ 9223372036854775807:=hQ.x.len
 clear hQ hsm hB hx0 hv k0 k1 k2 k3 k4 k5 k7 k8 k9 k10
 go_enter Tryz.func47,Tryz.ntmps47
 go_wp2_with fail
 go_loopw [9] (fun u wr=>∃ k:Nat,k ≤ q.n∧u = .int .i64 k∧Hid (∀ j,j < k→chkX (q.c j) = 0)∧Below w.heap.size w wr) (fun u _=>q.n - (intOf u).toNat)
 case atStart=>exact ⟨0,Nat.zero_le _,rfl,fun j hj=>absurd hj (Nat.not_lt_zero _),HB.out⟩
 case round =>
  obtain ⟨k,hk,rfl,HK,hBr⟩:=hrel
  clear k6
  by_cases hkn:k < q.n
  · obtain ⟨b,o,ea,hn,-⟩:=(HX.out.later hBr).part hkn
    have ea':q.a = some ⟨b,o,none⟩:=ea
    rw [ea']
    have hn':Node wr b (o + k * 7) (q.c k):=hn
    obtain ⟨d0,d1,d2,d3,d4,d5,d6⟩:=hn'
    have hB2:Below wr.heap.size wr (wr.alloc (.cells (q.c k).cells 54)):=nwB _ _
    have hbb:=hBr.trans (hB2.mono hBr.size)
    have hc:=HI.out k hkn _ hbb
    obtain ⟨g0,g1,g2,g3,g4,g5,g6⟩:=(node_new wr 54 (q.c k)).at0
    have HBB:Hid _:=hbb
    have HKN:=hid hkn
    obtain ⟨z,hz⟩:∃ z,z = chkX (q.c k):=⟨_,rfl⟩
    rw [← hz] at hc
    have HE:=hid hz
    clear hz ea ea' hn hB2 hbb
    by_cases hz0:z = 0
    · have t:(z != 0) = false:=by simp [hz0]
      have HZ0:=hid hz0
      clear hz0
      go_wp2_with (first | (go_at_call 98;refine hc.mono ?_;clear hc;rintro e w2 ⟨rfl,hB2⟩))
      refine ⟨⟨k + 1,HKN.out,by simp,fun j hj=>?_,HBB.out.trans (hB2.mono HBB.out.size)⟩,?_⟩
      · by_cases e:j = k
        · rw [e,← HE.out];exact HZ0.out
        · exact HK.out j (by omega)
      · have:=HKN.out;simp [intOf];omega
    · have t:(z != 0) = true:=by simp [hz0]
      have HZ0:=hid hz0
      clear hz0
      go_wp2_with (first | (go_at_call 98;refine hc.mono ?_;clear hc;rintro e w2 ⟨rfl,hB2⟩))
      try rw [Exit.noGoto_ret]
      go_ret
      exact ⟨by rw [HF.out k HKN.out HK.out (HE.out ▸ HZ0.out),← HE.out];rfl,HBB.out.trans (hB2.mono HBB.out.size)⟩
  · obtain rfl:k = q.n:=by omega
    go_wp2
    go_ret
    exact ⟨by rw [HZ.out HK.out];rfl,hBr⟩
theorem cl4_any (q:Qy) (w:World) (hQ:IsQ w q) (_:QOk q) (hsm:q.bulk ≤ 1048576):Calls Tryz.prog 48 #[q.val] w (RV (.int .i64 (cl4 q)) w):=by
 have hb:=hsm
 unfold Qy.bulk at hb
 have hB:Below w.heap.size w (w.alloc (.cells q.cells 95)):=nwB w _
 have hx0:=alloc_new w (.cells q.cells 95)
 obtain ⟨⟨k0,k1,k2,k3,k4,k5⟩,k6,k7,k8,k9,k10⟩:=qat0 hx0
 have HB:=hid hB
 have C1:Hid (∀ d,Calls Tryz.prog 60 #[.slice q.a q.n q.cap] d _):=fun d=>joined_any q.a q.n q.cap q.c d
 have C2:Hid (∀ d,Below w.heap.size w d→Calls Tryz.prog 99 #[q.x.val] d (RV (.int .i64 (q.x.size:Nat)) d)):=fun d h=>by
  have:=size_any q.x d (hQ.x.later h)
  rw [cnt_small _ (by omega)] at this
  exact this
 have HR:Hid (∀ h1:100 < q.x.size,cl4 q = 2):=fun h1=>if_pos h1
 have HR2:Hid (∀ h1:¬ 100 < q.x.size,cl4 q = 0):=fun h1=>if_neg h1
 obtain ⟨v,hv⟩:∃ v,v = cl4 q:=⟨_,rfl⟩
 rw [← hv] at HR HR2 ⊢
 obtain ⟨sz,hsz⟩:∃ sz,sz = q.x.size:=⟨_,rfl⟩
 rw [← hsz] at HR HR2 C2
 clear hQ hsm hB hx0 hv hb hsz k0 k1 k2 k3 k4 k5 k7 k8 k9 k10
 by_cases h1:100 < sz
 · rw [HR.out h1]
   have t1:((100:Int) < ((sz:Nat):Int)):=by omega
   clear h1 HR HR2
   go_enter Tryz.func48,Tryz.ntmps48
   go_wp2_with (first
    | (go_at_call 60;refine (C1.out _).mono ?_;rintro e w1 ⟨rfl,hB1⟩;have hb1:=HB.out.trans (hB1.mono HB.out.size))
    | (go_at_call 99;refine (C2.out _ hb1).mono ?_;rintro e w2 ⟨rfl,hB2⟩))
   go_ret
   exact ⟨rfl,hb1.trans (hB2.mono hb1.size)⟩
 · rw [HR2.out h1]
   have t1:¬ ((100:Int) < ((sz:Nat):Int)):=by omega
   clear h1 HR HR2
   go_enter Tryz.func48,Tryz.ntmps48
   go_wp2_with (first
    | (go_at_call 60;refine (C1.out _).mono ?_;rintro e w1 ⟨rfl,hB1⟩;have hb1:=HB.out.trans (hB1.mono HB.out.size))
    | (go_at_call 99;refine (C2.out _ hb1).mono ?_;rintro e w2 ⟨rfl,hB2⟩))
   go_ret
   exact ⟨rfl,hb1.trans (hB2.mono hb1.size)⟩
theorem kindA_any (z:X) (w:World):Calls Tryz.prog 102 #[z.val] w (RV (.bool (z.k == 16)) w):=by
 have hB:Below w.heap.size w (w.alloc (.cells z.cells 54)):=nwB w _
 have n0:=(node_new w 54 z).at0.1
 have HB:=hid hB
 clear hB
 go_enter Tryz.func102,Tryz.ntmps102
 go_wp2
 go_ret
 exact ⟨rfl,HB.out⟩
theorem kindsA_index (y:X) (w:World) (hY:IsX w y) :
 Calls Tryz.prog 139 #[.slice y.a y.n y.cap,.func (.func 102) #[] #[]] w fun e w'=>∃ r:Int,e = .returned (.int .i64 r)∧(0 ≤ r ↔ ∃ i,i < y.n∧(y.c i).k = 16)∧Below w.heap.size w w':=by
 have HY:=hid hY
 have hlen:=hY.len
 obtain ⟨a,ha⟩:∃ a,a = y.a:=⟨_,rfl⟩
 rw [← ha]
 have HA:=hid ha
 clear ha
 clear hY
 go_enter Tryz.func139,Tryz.ntmps139
 go_wp2
 go_loopw [8] (fun u wr=>∃ i:Nat,i ≤ y.n∧u = .int .i64 i∧Hid (∀ j,j < i→(y.c j).k ≠ 16)∧Below w.heap.size w wr) (fun u _=>y.n - (intOf u).toNat)
 case atStart=>exact ⟨0,Nat.zero_le _,rfl,fun j hj=>by omega,Below.refl _ _⟩
 case round =>
  obtain ⟨i,hi,rfl,HI,hB⟩:=hrel
  by_cases hin:i < y.n
  · obtain ⟨b2,o2,ea,hn,hx⟩:=(HY.out.later hB).part hin
    rw [← HA.out] at ea
    subst ea
    obtain ⟨d0,d1,d2,d3,d4,d5,d6⟩:=hn
    have hc:=kindA_any (y.c i) wr
    have HK:=hid hin
    clear hx
    by_cases hv:(y.c i).k = 16
    · have hv':((y.c i).k == 16) = true:=by simpa using hv
      have HV:=hid hv
      rw [hv'] at hc
      clear hv hv'
      go_wp2_with (go_at_call 102;refine hc.mono ?_;rintro e w2 ⟨rfl,hB2⟩)
      try rw [Exit.noGoto_ret]
      go_ret
      exact ⟨_,rfl,⟨fun _=>⟨i,HK.out,HV.out⟩,fun _=>by omega⟩,hB.trans (hB2.mono hB.size)⟩
    · have hv':((y.c i).k == 16) = false:=by simpa using hv
      have HV:=hid hv
      rw [hv'] at hc
      clear hv hv'
      go_wp2_with (go_at_call 102;refine hc.mono ?_;rintro e w2 ⟨rfl,hB2⟩)
      go_roundw
      case rel=>exact ⟨i + 1,HK.out,by go_num,fun j hj=>by by_cases e:j = i;(· rw [e];exact HV.out);exact HI.out j (by omega),hB.trans (hB2.mono hB.size)⟩
      case measure=>have:=HK.out;simp [intOf];omega
  · obtain rfl:i = y.n:=by omega
    go_wp2
    go_ret
    refine ⟨_,rfl,⟨fun h=>by omega,fun ⟨j,hj,e⟩=>absurd e (HI.out j hj)⟩,hB⟩
theorem kindsA_any (y:X) (w:World) (hY:IsX w y) :
 Calls Tryz.prog 101 #[.slice y.a y.n y.cap,.func (.func 102) #[] #[]] w fun e w'=>∃ r:Bool,e = .returned (.bool r)∧(r = true ↔ ∃ i,i < y.n∧(y.c i).k = 16)∧Below w.heap.size w w':=by
 have hc:=kindsA_index y w hY
 clear hY
 go_enter Tryz.func101,Tryz.ntmps101
 go_wp2_with (go_at_call 139;refine hc.mono ?_;rintro e w2 ⟨r,rfl,hr,hB2⟩;have HR:=hid hr;clear hr)
 go_ret
 exact ⟨decide (0 ≤ r),rfl,by rw [← HR.out];simp,hB2⟩
theorem cl5_any (q:Qy) (w:World) (hQ:IsQ w q) (_:QOk q) (hsm:q.bulk ≤ 1048576):Calls Tryz.prog 49 #[q.val] w (RV (.int .i64 (cl5 q)) w):=by
 have hb:=hsm
 unfold Qy.bulk at hb
 have hB:Below w.heap.size w (w.alloc (.cells q.cells 95)):=nwB w _
 have hx0:=alloc_new w (.cells q.cells 95)
 obtain ⟨⟨k0,k1,k2,k3,k4,k5⟩,k6,k7,k8,k9,k10⟩:=qat0 hx0
 have HB:=hid hB
 have C1:Hid (Calls Tryz.prog 101 #[.slice q.a q.n q.cap,.func (.func 102) #[] #[]] (w.alloc (.cells q.cells 95)) _):=kindsA_any q.x _ (hQ.x.later hB)
 have C2:Hid (∀ b d,Calls Tryz.prog 100 #[.bool b] d _):=fun b d=>argument_any b d
 have HR:Hid (∀ r:Bool,(r = true ↔ ∃ i,i < q.n∧(q.c i).k = 16)→cl5 q = argB (!r)):=fun r h=>by
  unfold cl5
  cases r with
  | true=>rw [if_pos (h.1 rfl)];rfl
  | false=>rw [if_neg (fun e=>by have:=h.2 e;cases this)];rfl
 clear hQ hsm hB hx0 k0 k1 k2 k3 k4 k5 k7 k8 k9 k10
 go_enter Tryz.func49,Tryz.ntmps49
 go_wp2_with (first
  | (go_at_call 101;refine C1.out.mono ?_;rintro e w1 ⟨r,rfl,hr,hB1⟩;have HRR:Hid _:=hr;clear hr)
  | (go_at_call 100;refine (C2.out _ _).mono ?_;rintro e w2 ⟨rfl,hB2⟩))
 go_ret
 exact ⟨by rw [HR.out r HRR.out];rfl,HB.out.trans ((hB1.trans (hB2.mono hB1.size)).mono HB.out.size)⟩
theorem cl6_any (q:Qy) (w:World) (_:IsQ w q) (_:QOk q) (hsm:q.bulk ≤ 1048576):Calls Tryz.prog 50 #[q.val] w (RV (.int .i64 (cl6 q)) w):=by
 have hb:=hsm
 unfold Qy.bulk at hb
 have hB:Below w.heap.size w (w.alloc (.cells q.cells 95)):=nwB w _
 have hx0:=alloc_new w (.cells q.cells 95)
 obtain ⟨⟨k0,k1,k2,k3,k4,k5⟩,k6,k7,k8,k9,k10⟩:=qat0 hx0
 have HB:=hid hB
 have C1:Hid (∀ d,Calls Tryz.prog 103 #[.string q.key] d _):=fun d=>name_any q.key d
 have C2:Hid (∀ b d,Calls Tryz.prog 100 #[.bool b] d _):=fun b d=>argument_any b d
 have HR:Hid (q.key = ⟨#[]⟩→cl6 q = argB true):=fun h=>by unfold cl6;rw [decide_eq_true h];rfl
 have HR2:Hid (¬ q.key = ⟨#[]⟩→cl6 q = argB (nameB q.key)):=fun h=>by unfold cl6;rw [decide_eq_false h];rfl
 obtain ⟨v,hv⟩:∃ v,v = cl6 q:=⟨_,rfl⟩
 rw [← hv] at HR HR2 ⊢
 clear hsm hB hx0 hv k0 k1 k2 k3 k4 k5 k6 k8 k9 k10
 by_cases h1:q.key = ⟨#[]⟩
 · have t1:(q.key.toList == []) = true:=by rw [h1,nil_list];rfl
   have HV:=HR.out h1
   clear h1 HR HR2 C1
   go_enter Tryz.func50,Tryz.ntmps50
   go_wp2_with (first
    | (go_at_call 100;refine (C2.out _ _).mono ?_;rintro e w2 ⟨rfl,hB2⟩))
   go_ret
   exact ⟨by rw [HV];rfl,HB.out.trans (hB2.mono HB.out.size)⟩
 · have t1:(q.key.toList == []) = false:=no_empty h1
   have HV:=HR2.out h1
   clear h1 HR HR2
   go_enter Tryz.func50,Tryz.ntmps50
   go_wp2_with (first
    | (go_at_call 103;refine (C1.out _).mono ?_;rintro e w1 ⟨rfl,hB1⟩)
    | (go_at_call 100;refine (C2.out _ _).mono ?_;rintro e w2 ⟨rfl,hB2⟩))
   go_ret
   exact ⟨by rw [HV];rfl,HB.out.trans ((hB1.trans (hB2.mono hB1.size)).mono HB.out.size)⟩
theorem cl7_any (q:Qy) (w:World) (_:IsQ w q) (_:QOk q) (hsm:q.bulk ≤ 1048576):Calls Tryz.prog 51 #[q.val] w (RV (.int .i64 (cl7 q)) w):=by
 have hb:=hsm
 unfold Qy.bulk at hb
 have hB:Below w.heap.size w (w.alloc (.cells q.cells 95)):=nwB w _
 have hx0:=alloc_new w (.cells q.cells 95)
 obtain ⟨⟨k0,k1,k2,k3,k4,k5⟩,k6,k7,k8,k9,k10⟩:=qat0 hx0
 have HB:=hid hB
 have C2:Hid (∀ b d,Calls Tryz.prog 100 #[.bool b] d _):=fun b d=>argument_any b d
 have HR:Hid (0 ≤ q.mode→cl7 q = argB (decide (q.mode ≤ 2))):=fun h=>by unfold cl7;rw [decide_eq_true h];rfl
 have HR2:Hid (¬ 0 ≤ q.mode→cl7 q = argB false):=fun h=>by unfold cl7;rw [decide_eq_false h];rfl
 obtain ⟨v,hv⟩:∃ v,v = cl7 q:=⟨_,rfl⟩
 rw [← hv] at HR HR2 ⊢
 clear hsm hB hx0 hv k0 k1 k2 k3 k4 k5 k6 k7 k9 k10
 by_cases h1:0 ≤ q.mode
 · have HV:=HR.out h1
   clear HR HR2
   go_enter Tryz.func51,Tryz.ntmps51
   go_wp2_with (first
    | (go_at_call 100;refine (C2.out _ _).mono ?_;rintro e w2 ⟨rfl,hB2⟩))
   go_ret
   exact ⟨by rw [HV];rfl,HB.out.trans (hB2.mono HB.out.size)⟩
 · have HV:=HR2.out h1
   clear HR HR2
   go_enter Tryz.func51,Tryz.ntmps51
   go_wp2_with (first
    | (go_at_call 100;refine (C2.out _ _).mono ?_;rintro e w2 ⟨rfl,hB2⟩))
   go_ret
   exact ⟨by rw [HV];rfl,HB.out.trans (hB2.mono HB.out.size)⟩
theorem cl8_any (q:Qy) (w:World) (_:IsQ w q) (_:QOk q) (hsm:q.bulk ≤ 1048576):Calls Tryz.prog 52 #[q.val] w (RV (.int .i64 (cl8 q)) w):=by
 have hb:=hsm
 unfold Qy.bulk at hb
 have hB:Below w.heap.size w (w.alloc (.cells q.cells 95)):=nwB w _
 have hx0:=alloc_new w (.cells q.cells 95)
 obtain ⟨⟨k0,k1,k2,k3,k4,k5⟩,k6,k7,k8,k9,k10⟩:=qat0 hx0
 have HB:=hid hB
 have C2:Hid (∀ b d,Calls Tryz.prog 100 #[.bool b] d _):=fun b d=>argument_any b d
 have HR:Hid (0 ≤ q.win→cl8 q = argB (decide (q.win ≤ 1099511627776))):=fun h=>by unfold cl8;rw [decide_eq_true h];rfl
 have HR2:Hid (¬ 0 ≤ q.win→cl8 q = argB false):=fun h=>by unfold cl8;rw [decide_eq_false h];rfl
 obtain ⟨v,hv⟩:∃ v,v = cl8 q:=⟨_,rfl⟩
 rw [← hv] at HR HR2 ⊢
 clear hsm hB hx0 hv k0 k1 k2 k3 k4 k5 k6 k7 k8 k10
 by_cases h1:0 ≤ q.win
 · have HV:=HR.out h1
   clear HR HR2
   go_enter Tryz.func52,Tryz.ntmps52
   go_wp2_with (first
    | (go_at_call 100;refine (C2.out _ _).mono ?_;rintro e w2 ⟨rfl,hB2⟩))
   go_ret
   exact ⟨by rw [HV];rfl,HB.out.trans (hB2.mono HB.out.size)⟩
 · have HV:=HR2.out h1
   clear HR HR2
   go_enter Tryz.func52,Tryz.ntmps52
   go_wp2_with (first
    | (go_at_call 100;refine (C2.out _ _).mono ?_;rintro e w2 ⟨rfl,hB2⟩))
   go_ret
   exact ⟨by rw [HV];rfl,HB.out.trans (hB2.mono HB.out.size)⟩
end Go.Proofs.YtkfpgkohkhhlhaaGreatDoor
