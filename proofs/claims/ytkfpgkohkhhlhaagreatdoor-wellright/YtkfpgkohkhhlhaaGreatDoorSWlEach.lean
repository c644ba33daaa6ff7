/- Texts that the last one stands on. -/
import Derived.Test.YtkfpgkohkhhlhaaGreatDoorSWlAhead
set_option maxRecDepth 100000
set_option maxHeartbeats 4000000
namespace Go.Proofs.YtkfpgkohkhhlhaaGreatDoor
open Go.RowKit
def FstR (R:Nat→Int→Prop) (n:Nat) (z:Int):Prop:=(z = 0∧∀ i,i < n→R i 0) ∨ (z ≠ 0∧∃ i,i < n∧(∀ j,j < i→R j 0)∧R i z)
theorem FstR.one {R:Nat→Int→Prop} {n:Nat} (h1:∀ i,i < n→∀ z z',R i z→R i z'→z = z') {z z':Int} (h:FstR R n z) (h':FstR R n z'):z = z':=by
 rcases h with ⟨rfl,a⟩ | ⟨a,i,hi,b,c⟩ <;> rcases h' with ⟨rfl,a'⟩ | ⟨a',i',hi',b',c'⟩
 · rfl
 · exact h1 i' hi' _ _ (a i' hi') c'
 · exact h1 i hi _ _ c (a' i hi)
 · rcases Nat.lt_trichotomy i i' with h | h | h
   · exact absurd (h1 i hi _ _ c (b' i h)) a
   · subst h;exact h1 i hi _ _ c c'
   · exact absurd (h1 i' hi' _ _ c' (b i' h)) a'
abbrev zeroX:Array Value:=#[.int .i64 0,.int .i64 0,.int .i64 0,.string ⟨#[]⟩,.string ⟨#[]⟩,.string ⟨#[]⟩,.slice none 0 0]
abbrev cells7 (x:X):Array Value:=#[.int .i64 x.k,.int .i64 x.v.k,.int .i64 x.v.n,.string x.v.s,.string x.s,.string x.f,.slice x.a x.n x.cap]
theorem boxX_put (x:X) (w:World):∃ A W,w.alloc (.cells zeroX 54) = A∧A.heap[w.heap.size]? = some (.cells zeroX 54 (0,0)) ∧
 ((((((A.setCell ⟨w.heap.size,0,none⟩ (.int .i64 x.k)).setCell ⟨w.heap.size,1,none⟩ (.int .i64 x.v.k)).setCell ⟨w.heap.size,2,none⟩ (.int .i64 x.v.n)).setCell ⟨w.heap.size,3,none⟩ (.string x.v.s)).setCell ⟨w.heap.size,4,none⟩ (.string x.s)).setCell ⟨w.heap.size,5,none⟩ (.string x.f)).setCell ⟨w.heap.size,6,none⟩ (.slice x.a x.n x.cap) = W ∧
 Below w.heap.size w W∧W.heap[w.heap.size]? = some (.cells (cells7 x) 54 (0,0))∧W.heap.size = w.heap.size + 1:=by
 have h0:(w.alloc (.cells zeroX 54)).heap[w.heap.size]? = some (.cells zeroX 54 (0,0)):=World.alloc_heap_new w _
 exact ⟨_,_,rfl,h0,rfl,((((((nwB w _).setCell (Nat.le_refl _) _).setCell (Nat.le_refl _) _).setCell (Nat.le_refl _) _).setCell (Nat.le_refl _) _).setCell (Nat.le_refl _) _).setCell (Nat.le_refl _) _ |>.setCell (Nat.le_refl _) _,
  heap_set (heap_set (heap_set (heap_set (heap_set (heap_set (heap_set h0)))))),by simp⟩
theorem zero_cellsX {w:World} {B:Nat} (h:w.heap[B]? = some (.cells zeroX 54 (0,0))):(w.cell? ⟨B,0,none⟩ = some (.int .i64 0)∧w.cell? ⟨B,1,none⟩ = some (.int .i64 0)∧w.cell? ⟨B,2,none⟩ = some (.int .i64 0)∧w.cell? ⟨B,3,none⟩ = some (.string ⟨#[]⟩)∧w.cell? ⟨B,4,none⟩ = some (.string ⟨#[]⟩)∧w.cell? ⟨B,5,none⟩ = some (.string ⟨#[]⟩)∧w.cell? ⟨B,6,none⟩ = some (.slice none 0 0)) ∧
 ∀ j,w.frozen? ⟨B,j,none⟩ = false:=by
 refine ⟨⟨?_,?_,?_,?_,?_,?_,?_⟩,fun j=>?_⟩ <;> simp [World.cell?,World.frozen?,h]
theorem cells7_at {w:World} {B:Nat} {x:X} (h:w.heap[B]? = some (.cells (cells7 x) 54 (0,0))):w.cell? ⟨B,0,none⟩ = some (.int .i64 x.k)∧w.cell? ⟨B,1,none⟩ = some (.int .i64 x.v.k)∧w.cell? ⟨B,2,none⟩ = some (.int .i64 x.v.n)∧w.cell? ⟨B,3,none⟩ = some (.string x.v.s) ∧
 w.cell? ⟨B,4,none⟩ = some (.string x.s)∧w.cell? ⟨B,5,none⟩ = some (.string x.f)∧w.cell? ⟨B,6,none⟩ = some (.slice x.a x.n x.cap):=by
 refine ⟨?_,?_,?_,?_,?_,?_,?_⟩ <;> simp [World.cell?,h]
abbrev zeroIt:Array Value:=#[.string ⟨#[]⟩,.int .i64 0,.string ⟨#[]⟩,.string ⟨#[]⟩]
theorem boxI_put (x:It) (w:World):∃ A W,w.alloc (.cells zeroIt 77) = A∧A.heap[w.heap.size]? = some (.cells zeroIt 77 (0,0)) ∧
 (((A.setCell ⟨w.heap.size,0,none⟩ (.string x.nm)).setCell ⟨w.heap.size,1,none⟩ (.int .i64 x.k)).setCell ⟨w.heap.size,2,none⟩ (.string x.s)).setCell ⟨w.heap.size,3,none⟩ (.string x.f) = W ∧
 Below w.heap.size w W∧W.heap[w.heap.size]? = some (.cells x.cells 77 (0,0))∧W.heap.size = w.heap.size + 1:=by
 have h0:(w.alloc (.cells zeroIt 77)).heap[w.heap.size]? = some (.cells zeroIt 77 (0,0)):=World.alloc_heap_new w _
 exact ⟨_,_,rfl,h0,rfl,((((nwB w _).setCell (Nat.le_refl _) _).setCell (Nat.le_refl _) _).setCell (Nat.le_refl _) _).setCell (Nat.le_refl _) _,
  heap_set (heap_set (heap_set (heap_set h0))),by simp⟩
theorem zero_cellsI {w:World} {B:Nat} (h:w.heap[B]? = some (.cells zeroIt 77 (0,0))):(w.cell? ⟨B,0,none⟩ = some (.string ⟨#[]⟩)∧w.cell? ⟨B,1,none⟩ = some (.int .i64 0)∧w.cell? ⟨B,2,none⟩ = some (.string ⟨#[]⟩)∧w.cell? ⟨B,3,none⟩ = some (.string ⟨#[]⟩))∧∀ j,w.frozen? ⟨B,j,none⟩ = false:=by
 refine ⟨⟨?_,?_,?_,?_⟩,fun j=>?_⟩ <;> simp [World.cell?,World.frozen?,h]
def Looks (W:World) (R:Nat→Int→Prop) (f:Nat) (first cap:Array Value) (n:Nat) (arg:Nat→Value):Prop :=
 ∀ i,i < n→∀ d,Below W.heap.size W d→Calls Tryz.prog f (first ++ #[arg i] ++ cap) d fun e w'=>∃ z v,e = .returned v∧R i z∧ErrW z v∧Below d.heap.size d w'
theorem eachX_any (a:Option Addr) (n cap:Nat) (c:Nat→X) (W:World) (hn:n ≤ 9223372036854775807) (hX:∀ d,Below W.heap.size W d→∀ i,i < n→∃ b o,a = some ⟨b,o,none⟩∧Node d b (o + i * 7) (c i)) (R:Nat→Int→Prop) (p:Value) (h:Looks W R 117 #[p] #[] n (fun i=>(c i).val)) :
 Calls Tryz.prog 116 #[.slice a n cap,.func (.func 117) #[p] #[]] W fun e w'=>∃ z v,e = .returned v∧FstR R n z∧ErrW z v∧Below W.heap.size W w':=by
 have HX:Hid _:=hX
 have HL:Hid _:=h
 clear hX h
 go_enter Tryz.func116,Tryz.ntmps116
 go_wp2
 go_loopw [10] (fun u wr=>∃ k:Nat,k ≤ n∧u = .int .i64 k∧Hid (∀ j,j < k→R j 0)∧Below W.heap.size W wr) (fun u _=>n - (intOf u).toNat)
 case atStart=>exact ⟨0,Nat.zero_le _,rfl,fun j hj=>absurd hj (Nat.not_lt_zero _),Below.refl _ _⟩
 case round =>
  obtain ⟨k,hk,rfl,HK,hB⟩:=hrel
  by_cases hkn:k < n
  · obtain ⟨b1,o1,rfl,hn1⟩:=HX.out wr hB k hkn
    obtain ⟨C,V,hC,hCb,hCV,hCB,hCn,hCs⟩:=boxX_put (c k) wr
    obtain ⟨⟨g0,g1,g2,g3,g4,g5,g6⟩,fz⟩:=zero_cellsX hCb
    obtain ⟨c0,c1,c2,c3,c4,c5,c6⟩:=hn1
    obtain ⟨j0,j1,j2,j3,j4,j5,j6⟩:=cells7_at hCn
    have HBV:Hid (Below W.heap.size W V):=hB.trans (hCB.mono hB.size)
    clear hCb hCn hCs hCB
    have C7:=HL.out k hkn V HBV.out
    have HKN:=hid hkn
    simp only [List.append_toArray,List.cons_append,List.nil_append] at C7
    go_wp2_with (go_at_call 117;refine C7.mono ?_;clear C7;rintro e w2 ⟨z,v,rfl,hz,hv,hB2⟩;rcases hv with ⟨rfl,rfl⟩ | ⟨hz0,y,hy,rfl⟩;rotate_left;(obtain ⟨yt,yu,ey⟩:=y.iface;rw [ey]))
    · go_ret
      refine ⟨z,_,rfl,.inr ⟨hz0,k,HKN.out,HK.out,hz⟩,.inr ⟨hz0,.row k y,hy,by rw [Rfs.val,ey];rfl⟩,?_⟩
      have:=HBV.out.trans (hB2.mono HBV.out.size)
      first | exact this | exact this.alloc this.size _
    · go_roundw
      case rel =>
       refine ⟨k + 1,HKN.out,by simp,fun j hj=>?_,HBV.out.trans (hB2.mono HBV.out.size)⟩
       by_cases ej:j = k
       · rw [ej];exact hz
       · exact HK.out j (by omega)
      case measure=>have:=HKN.out;simp [intOf];omega
  · have hk':k = n:=by omega
    subst hk'
    go_wp2
    go_ret
    exact ⟨0,_,rfl,.inl ⟨rfl,HK.out⟩,.inl ⟨rfl,rfl⟩,hB⟩
theorem eachI_any (a:Option Addr) (n cap:Nat) (c:Nat→It) (W:World) (hn:n ≤ 9223372036854775807) (hX:∀ d,Below W.heap.size W d→Its d a n c) (R:Nat→Int→Prop) (p:Value) (h:Looks W R 122 #[p] #[] n (fun i=>(c i).val)) :
 Calls Tryz.prog 121 #[.slice a n cap,.func (.func 122) #[p] #[]] W fun e w'=>∃ z v,e = .returned v∧FstR R n z∧ErrW z v∧Below W.heap.size W w':=by
 have HX:Hid _:=hX
 have HL:Hid _:=h
 clear hX h
 go_enter Tryz.func121,Tryz.ntmps121
 go_wp2
 go_loopw [10] (fun u wr=>∃ k:Nat,k ≤ n∧u = .int .i64 k∧Hid (∀ j,j < k→R j 0)∧Below W.heap.size W wr) (fun u _=>n - (intOf u).toNat)
 case atStart=>exact ⟨0,Nat.zero_le _,rfl,fun j hj=>absurd hj (Nat.not_lt_zero _),Below.refl _ _⟩
 case round =>
  obtain ⟨k,hk,rfl,HK,hB⟩:=hrel
  by_cases hkn:k < n
  · obtain ⟨b1,o1,rfl,hn1⟩:=HX.out wr hB k hkn
    obtain ⟨C,V,hC,hCb,hCV,hCB,hCn,hCs⟩:=boxI_put (c k) wr
    obtain ⟨⟨g0,g1,g2,g3⟩,fz⟩:=zero_cellsI hCb
    obtain ⟨c0,c1,c2,c3⟩:=hn1
    obtain ⟨j0,j1,j2,j3⟩:=itAt_box hCn
    simp only [Nat.zero_add] at j1 j2 j3
    have HBV:Hid (Below W.heap.size W V):=hB.trans (hCB.mono hB.size)
    clear hCb hCn hCs hCB
    have C7:=HL.out k hkn V HBV.out
    have HKN:=hid hkn
    simp only [List.append_toArray,List.cons_append,List.nil_append] at C7
    go_wp2_with (go_at_call 122;refine C7.mono ?_;clear C7;rintro e w2 ⟨z,v,rfl,hz,hv,hB2⟩;rcases hv with ⟨rfl,rfl⟩ | ⟨hz0,y,hy,rfl⟩;rotate_left;(obtain ⟨yt,yu,ey⟩:=y.iface;rw [ey]))
    · go_ret
      refine ⟨z,_,rfl,.inr ⟨hz0,k,HKN.out,HK.out,hz⟩,.inr ⟨hz0,.row k y,hy,by rw [Rfs.val,ey];rfl⟩,?_⟩
      have:=HBV.out.trans (hB2.mono HBV.out.size)
      first | exact this | exact this.alloc this.size _
    · go_roundw
      case rel =>
       refine ⟨k + 1,HKN.out,by simp,fun j hj=>?_,HBV.out.trans (hB2.mono HBV.out.size)⟩
       by_cases ej:j = k
       · rw [ej];exact hz
       · exact HK.out j (by omega)
      case measure=>have:=HKN.out;simp [intOf];omega
  · have hk':k = n:=by omega
    subst hk'
    go_wp2
    go_ret
    exact ⟨0,_,rfl,.inl ⟨rfl,HK.out⟩,.inl ⟨rfl,rfl⟩,hB⟩
theorem eachS_any (a:Option Addr) (n cap:Nat) (S:Nat→ByteArray) (W:World) (hn:n ≤ 9223372036854775807) (hX:Txs W a n S) (R:Nat→Int→Prop) (p q:Value) (h:Looks W R 120 #[] #[p,q] n (fun i=>.string (S i))) :
 Calls Tryz.prog 119 #[.slice a n cap,.func (.func 120) #[] #[p,q]] W fun e w'=>∃ z v,e = .returned v∧FstR R n z∧ErrW z v∧Below W.heap.size W w':=by
 have HX:Hid _:=hX
 have HL:Hid _:=h
 clear hX h
 go_enter Tryz.func119,Tryz.ntmps119
 go_wp2
 go_loopw [10] (fun u wr=>∃ k:Nat,k ≤ n∧u = .int .i64 k∧Hid (∀ j,j < k→R j 0)∧Below W.heap.size W wr) (fun u _=>n - (intOf u).toNat)
 case atStart=>exact ⟨0,Nat.zero_le _,rfl,fun j hj=>absurd hj (Nat.not_lt_zero _),Below.refl _ _⟩
 case round =>
  obtain ⟨k,hk,rfl,HK,hB⟩:=hrel
  by_cases hkn:k < n
  · obtain ⟨b1,o1,rfl,hn1⟩:=(show Txs W a n S from HX.out).later hB (Nat.lt_of_le_of_lt (Nat.zero_le _) hkn)
    have c0:=hn1 k hkn
    obtain ⟨V,hV⟩:∃ V,V = wr:=⟨_,rfl⟩
    have HBV:Hid (Below W.heap.size W V):=by rw [hV];exact hB
    subst hV
    clear hn1
    have C7:=HL.out k hkn V HBV.out
    have HKN:=hid hkn
    simp only [List.append_toArray,List.cons_append,List.nil_append] at C7
    go_wp2_with (go_at_call 120;refine C7.mono ?_;clear C7;rintro e w2 ⟨z,v,rfl,hz,hv,hB2⟩;rcases hv with ⟨rfl,rfl⟩ | ⟨hz0,y,hy,rfl⟩;rotate_left;(obtain ⟨yt,yu,ey⟩:=y.iface;rw [ey]))
    · go_ret
      refine ⟨z,_,rfl,.inr ⟨hz0,k,HKN.out,HK.out,hz⟩,.inr ⟨hz0,.row k y,hy,by rw [Rfs.val,ey];rfl⟩,?_⟩
      have:=HBV.out.trans (hB2.mono HBV.out.size)
      first | exact this | exact this.alloc this.size _
    · go_roundw
      case rel =>
       refine ⟨k + 1,HKN.out,by simp,fun j hj=>?_,HBV.out.trans (hB2.mono HBV.out.size)⟩
       by_cases ej:j = k
       · rw [ej];exact hz
       · exact HK.out j (by omega)
      case measure=>have:=HKN.out;simp [intOf];omega
  · have hk':k = n:=by omega
    subst hk'
    go_wp2
    go_ret
    exact ⟨0,_,rfl,.inl ⟨rfl,HK.out⟩,.inl ⟨rfl,rfl⟩,hB⟩
abbrev lookW (x:Pt) (ns:Nat) (Q:Nat→Sch):ByteArray→ByteArray→Option Int:=lookN (fstL x).length (fstV x) (fstT x) ns Q
structure Ctx (w0 W:World) (b:Nat) (bk:Value) (q:Qy) (ns:Nat) (Q:Nat→Sch) (N T:Addr):Prop where
 below:Below w0.heap.size w0 W
 ask:Asked W b bk q ns Q
 new:newZ (fstL q.p).length (fstL q.p).length (fstT q.p) ns Q = 0
 isq:IsQ w0 q
 ok:QOk q
 sm:q.bulk ≤ 1048576
 sens:Sens w0 N T
theorem Asked.later {W W':World} {b:Nat} {bk:Value} {q:Qy} {ns:Nat} {Q:Nat→Sch} (h:Asked W b bk q ns Q) (hB:Below W.heap.size W W'):Asked W' b bk q ns Q:=by
 obtain ⟨av,cv,a6,c6,a5,c5,po,h1,h2,h3,h4,h5⟩:=h
 refine ⟨av,cv,a6,c6,a5,c5,po,h1.later hB,h2.later hB,h3.later hB,h4.later hB,fun hz=>?_⟩
 obtain ⟨p,m,S,e,hn,hs⟩:=h5 hz
 exact ⟨p,m,S,e,hn.later hB,hs⟩
theorem Ctx.later {w0 W W':World} {b:Nat} {bk:Value} {q:Qy} {ns:Nat} {Q:Nat→Sch} {N T:Addr} (h:Ctx w0 W b bk q ns Q N T) (hB:Below W.heap.size W W'):Ctx w0 W' b bk q ns Q N T :=
 ⟨h.below.trans (hB.mono h.below.size),h.ask.later hB,h.new,h.isq,h.ok,h.sm,h.sens⟩
def CondR (L:ByteArray→ByteArray→Option Int) (p:Pt) (x:X) (z:Int):Prop:=∃ K E,KindIs L x K E∧z = if condZ K E = 0 then (if togB p (varsX x) = true then 0 else 4) else condZ K E
theorem CondR.one {L:ByteArray→ByteArray→Option Int} {p:Pt} {x:X} {z z':Int} (h:CondR L p x z) (h':CondR L p x z'):z = z':=by
 obtain ⟨K,E,h1,rfl⟩:=h
 obtain ⟨K',E',h1',rfl⟩:=h'
 obtain ⟨rfl,rfl⟩:=h1.one h1'
 rfl
theorem condition_any (w0 W:World) (b:Nat) (bk:Value) (q:Qy) (ns:Nat) (Q:Nat→Sch) (N T:Addr) (h:Ctx w0 W b bk q ns Q N T) (x:X) (hX:IsX W x) (hxs:x.size ≤ 1048576) :
 Calls Tryz.prog 117 #[.pointer (some ⟨b,0,none⟩),x.val] W fun e w'=>∃ z v,e = .returned v∧CondR (lookW q.p ns Q) q.p x z∧ErrW z v∧Below W.heap.size W w':=by
 have hps:q.p.size ≤ 1048576:=by have:=h.sm;unfold Qy.bulk at this;omega
 obtain ⟨A,hA⟩:∃ A,W.alloc (.cells (cells7 x) 54) = A:=⟨_,rfl⟩
 have hBA:Below W.heap.size W A:=by rw [← hA];exact (Below.refl _ W).alloc (Nat.le_refl _) _
 have hA7:A.heap[W.heap.size]? = some (.cells (cells7 x) 54 (0,0)):=by rw [← hA];exact alloc_new W _
 have hsA:A.heap.size = W.heap.size + 1:=by rw [← hA];simp
 have hC:=h.later hBA
 obtain ⟨av,cv,a6,c6,a5,c5,po,hAB,-,-,-,hJ⟩:=hC.ask
 obtain ⟨p,m,S,rfl,hnm,hsame⟩:=hJ h.new
 obtain ⟨-,-,-,d15⟩:=hAB.made
 obtain ⟨j0,j1,j2,j3,j4,j5,j6⟩:=cells7_at hA7
 have hSens:Sens A N T:=h.sens.later hC.below
 have CC:Hid (∀ d,Below A.heap.size A d→Calls Tryz.prog 152 #[.pointer (some ⟨p,0,none⟩),x.val] d _):=fun d hd=>cond_calls (.pointer (some ⟨p,0,none⟩)) (KindIs (lookW q.p ns Q) x) x d fun d' hd'=>by
  have hd2:=hd.trans (hd'.mono hd.size)
  have:=kindT_calls p m _ _ S N T x d' (hnm.later hd2) (hSens.later hd2) (hX.later (hBA.trans (hd2.mono hBA.size)))
  rw [look_same hsame] at this
  exact this
 have CV:Hid (∀ d,Below A.heap.size A d→Calls Tryz.prog 43 #[x.val] d _):=fun d hd=>vars_any x d (hX.later (hBA.trans (hd.mono hBA.size))) hxs
 have CT:Hid (∀ a cap d,Below A.heap.size A d→Txs d a (varsX x).length (atS (varsX x))→Calls Tryz.prog 153 #[.pointer (some ⟨b,0,none⟩),.slice a (varsX x).length cap] d _):=fun a cap d hd ht =>
  together_any w0 d b bk q ns Q (hC.below.trans (hd.mono hC.below.size)) (hC.ask.later hd) h.isq.p hps h.ok.p a _ cap (varsX x) ht rfl (by have:=vars_len x;omega)
 have H7:=hid hA7
 have HBA:=hid hBA
 clear h hX hxs hps hBA hC hAB hJ hnm hsame hSens hA7
 go_enter Tryz.func117,Tryz.ntmps117
 go_wp2
 go_region_with (go_at_call 152;refine (CC.out _ ?_).mono ?_;exact (Below.refl _ _).drew;rintro e w2 ⟨K,E,rfl,hK,hB2⟩)
 all_goals obtain ⟨cz,hcz⟩:∃ cz,cz = condZ K E:=⟨_,rfl⟩
 all_goals rw [← hcz]
 all_goals have hBA2:Below A.heap.size A w2:=(Below.refl _ _).drew.trans hB2
 all_goals have H7':=cells7_at ((hBA2.block _ (by omega)).trans H7.out)
 all_goals obtain ⟨k0,k1,k2,k3,k4,k5,k6⟩:=H7'
 all_goals have HK:=hid hK
 all_goals have HZ:=hid hcz
 all_goals have HB2:=hid hBA2
 all_goals clear hK hcz hBA2 hB2 CC
 all_goals by_cases h0:cz = 0
 all_goals first
  | (have t0:(cz != 0) = false:=by simp [h0]
     have HC0:=hid h0
     clear h0
     cases ht:togB q.p (varsX x)
     all_goals have HT:=hid ht
     all_goals clear ht
     all_goals go_wp2_with (first
      | (go_at_call 43;refine (CV.out w2 HB2.out).mono ?_;clear CV;rintro e w3 ⟨v3,rfl,ho3,hB3⟩;obtain ⟨a3,c3,rfl⟩:=row_slice ho3;have hB3':=HB2.out.trans (hB3.mono HB2.out.size);have CT':=CT.out a3 c3 w3 hB3' (own_txs' ho3);clear CT ho3;rw [HT.out] at CT')
      | (go_at_call 153;refine CT'.mono ?_;clear CT';rintro e w4 ⟨rfl,hB4⟩)
      | (go_at_call 111;refine (refusedIf_any _ 4 _).mono ?_;rintro e w5 ⟨rfl,rfl⟩))
     all_goals go_ret
     all_goals first
      | exact ⟨4,_,rfl,⟨K,E,HK.out,by rw [← HZ.out,HC0.out,HT.out];rfl⟩,.inr ⟨by decide,.base 4,rfl,rfl⟩,HBA.out.trans ((hB3'.trans (hB4.mono hB3'.size)).mono HBA.out.size)⟩
      | exact ⟨0,_,rfl,⟨K,E,HK.out,by rw [← HZ.out,HC0.out,HT.out];rfl⟩,.inl ⟨rfl,rfl⟩,HBA.out.trans ((hB3'.trans (hB4.mono hB3'.size)).mono HBA.out.size)⟩)
  | (have t0:(cz != 0) = true:=by simp [h0]
     have HC0:=hid h0
     clear h0
     go_wp2
     go_ret
     exact ⟨cz,_,rfl,⟨K,E,HK.out,by rw [← HZ.out,if_neg HC0.out]⟩,.inr ⟨HC0.out,.base cz,rfl,rfl⟩,HBA.out.trans (HB2.out.mono HBA.out.size)⟩)
theorem conditions_any (w0 W:World) (b:Nat) (bk:Value) (q:Qy) (ns:Nat) (Q:Nat→Sch) (N T:Addr) (h:Ctx w0 W b bk q ns Q N T) :
 Calls Tryz.prog 68 #[.pointer (some ⟨b,0,none⟩)] W fun e w'=>∃ z v,e = .returned v∧FstR (fun i=>CondR (lookW q.p ns Q) q.p (q.c i)) q.n z∧ErrW z v∧Below W.heap.size W w':=by
 obtain ⟨av,cv,a6,c6,a5,c5,po,hAB,-⟩:=h.ask
 obtain ⟨d7,-⟩:=hAB.rest
 have hq:=h.isq.x
 have hsm:q.x.size ≤ 1048576:=by have:=h.sm;unfold Qy.bulk at this;omega
 have C:=eachX_any q.a q.n q.cap q.c W hq.len (fun d hd i hi=>by
  obtain ⟨b',o',e,hn,_⟩:=(hq.later (h.below.trans (hd.mono h.below.size))).part hi
  exact ⟨b',o',e,hn⟩) (fun i=>CondR (lookW q.p ns Q) q.p (q.c i)) (.pointer (some ⟨b,0,none⟩)) (fun i hi d hd=>by
  have hC:=h.later hd
  obtain ⟨b',o',e,_,hx⟩:=(hq.later hC.below).part hi
  exact condition_any w0 d b bk q ns Q N T hC (q.c i) hx (by have:=X.size_part q.x i hi;exact Nat.le_trans (Nat.le_of_lt this) hsm))
 clear h hq hsm hAB
 go_enter Tryz.func68,Tryz.ntmps68
 go_wp2_with (go_at_call 116;refine C.mono ?_;clear C;rintro e w1 ⟨z,v,rfl,hz,hv,hB1⟩)
 go_ret
 exact ⟨z,v,rfl,hz,hv,hB1⟩
abbrev fldX (v f:ByteArray):X:=.mk 2 val0 v f none 0 0 (fun _=>.nil)
def kindF (L:ByteArray→ByteArray→Option Int) (v f:ByteArray):Int × Int:=match L v f with | some k=>(k,0) | none=>(0,6)
theorem kind_fld {L:ByteArray→ByteArray→Option Int} {v f:ByteArray} {K E:Int} (hv:nameB v = true) (hf:nameB f = true) (h:KindIs L (fldX v f) K E):K = (kindF L v f).1∧E = (kindF L v f).2:=by
 have hz:(fldX v f).size ≤ 100:=by simp [X.size,sumN]
 have ht:TreeR (fldX v f):=⟨⟨fun _=>rfl,fun h=>absurd rfl h,.inr (.inl ⟨rfl,rfl,hv,hf⟩)⟩,fun i hi=>absurd hi (Nat.not_lt_zero _)⟩
 rcases h with ⟨_,_,h1,h2⟩ | ⟨h1,_⟩
 · rw [kindE_field rfl rfl] at h1 h2
   exact ⟨h1,h2⟩
 · exact absurd ⟨hz,ht⟩ h1
theorem kindW_any (w0 W:World) (b:Nat) (bk:Value) (q:Qy) (ns:Nat) (Q:Nat→Sch) (N T:Addr) (h:Ctx w0 W b bk q ns Q N T) (v f:ByteArray) (hv:nameB v = true) (hf:nameB f = true) :
 Calls Tryz.prog 118 #[.pointer (some ⟨b,0,none⟩),.string v,.string f] W (RV (.tuple #[.int .i64 (kindF (lookW q.p ns Q) v f).1,.int .i64 (kindF (lookW q.p ns Q) v f).2]) W):=by
 obtain ⟨av,cv,a6,c6,a5,c5,po,hAB,-,-,-,hJ⟩:=h.ask
 obtain ⟨p,m,S,rfl,hnm,hsame⟩:=hJ h.new
 obtain ⟨-,-,-,d15⟩:=hAB.made
 have C:=kindT_calls p m _ _ S N T (fldX v f) W hnm (h.sens.later h.below) ⟨Nat.le_refl _,Nat.zero_le _,fun i hi=>absurd hi (Nat.not_lt_zero _)⟩
 rw [look_same hsame] at C
 have HV:Hid _:=hv
 have HF:Hid _:=hf
 clear h hAB hJ hnm hsame hv hf
 go_enter Tryz.func118,Tryz.ntmps118
 go_wp2_with (go_at_call 154;refine C.mono ?_;clear C;rintro e w1 ⟨K,E,rfl,hK,hB1⟩;obtain ⟨rfl,rfl⟩:=kind_fld HV.out HF.out hK;clear hK)
 exact bodyPost_ret (results_tmp2 rfl _ _ _) rfl ⟨rfl,hB1⟩
def keyZ (kk:Int × Int) (k0:Int):Int:=if kk.2 = 0 then (if kk.1 = k0 then 0 else 5) else kk.2
def KeyR (L:ByteArray→ByteArray→Option Int) (V:Nat→ByteArray) (key:ByteArray) (i:Nat) (z:Int):Prop:=z = keyZ (kindF L (V i) key) (kindF L (V 0) key).1
theorem key1_any (w0 W:World) (b:Nat) (bk:Value) (q:Qy) (ns:Nat) (Q:Nat→Sch) (N T:Addr) (h:Ctx w0 W b bk q ns Q N T) (v:ByteArray) (hv:nameB v = true) (hf:nameB q.key = true) (B1 B2:Nat) (k0:Int) (h1:W.cell? ⟨B1,0,none⟩ = some (.pointer (some ⟨b,0,none⟩))) (h2:W.cell? ⟨B2,0,none⟩ = some (.int .i64 k0)) :
 Calls Tryz.prog 120 #[.string v,.pointer (some ⟨B1,0,none⟩),.pointer (some ⟨B2,0,none⟩)] W fun e w'=>∃ z r,e = .returned r∧z = keyZ (kindF (lookW q.p ns Q) v q.key) k0∧ErrW z r∧Below W.heap.size W w':=by
 obtain ⟨av,cv,a6,c6,a5,c5,po,hAB,-⟩:=h.ask
 obtain ⟨-,d8,-⟩:=hAB.rest
 have C:Hid (∀ d,Below W.heap.size W d→Calls Tryz.prog 118 _ d _):=fun d hd=>kindW_any w0 d b bk q ns Q N T (h.later hd) v q.key hv hf
 obtain ⟨kk,hkk⟩:∃ kk,kk = kindF (lookW q.p ns Q) v q.key:=⟨_,rfl⟩
 rw [← hkk] at C ⊢
 have H2:=hid h2
 clear h hAB hv hf hkk h2
 go_enter Tryz.func120,Tryz.ntmps120
 go_wp2
 go_region_with (go_at_call 118;refine (C.out _ ?_).mono ?_;exact (Below.refl _ _).drew;rintro e w2 ⟨rfl,hB2⟩)
 all_goals have hBW:Below W.heap.size W w2:=(Below.refl _ _).drew.trans hB2
 all_goals have c2:=cell_later H2.out hBW
 all_goals by_cases e0:kk.2 = 0
 all_goals first
  | (have t0:(kk.2 != 0) = false:=by simp [e0]
     by_cases e1:kk.1 = k0
     all_goals first
      | (have t1:(kk.1 != k0) = false:=by simp [e1]
         have HE:Hid (0 = keyZ kk k0):=by show _ = _;rw [keyZ,if_pos e0,if_pos e1]
         clear e0 e1
         go_wp2_with (go_at_call 111;refine (refusedIf_any false 5 _).mono ?_;rintro e w3 ⟨rfl,rfl⟩)
         go_ret
         exact ⟨0,_,rfl,HE.out,.inl ⟨rfl,rfl⟩,hBW⟩)
      | (have t1:(kk.1 != k0) = true:=by simp [e1]
         have HE:Hid (5 = keyZ kk k0):=by show _ = _;rw [keyZ,if_pos e0,if_neg e1]
         clear e0 e1
         go_wp2_with (go_at_call 111;refine (refusedIf_any true 5 _).mono ?_;rintro e w3 ⟨rfl,rfl⟩)
         go_ret
         exact ⟨5,_,rfl,HE.out,.inr ⟨by decide,.base 5,rfl,rfl⟩,hBW⟩))
  | (have t0:(kk.2 != 0) = true:=by simp [e0]
     have HE:Hid (kk.2 = keyZ kk k0):=by show _ = _;rw [keyZ,if_neg e0]
     have HE0:=hid e0
     clear e0
     go_wp2
     go_ret
     exact ⟨kk.2,_,rfl,HE.out,.inr ⟨HE0.out,.base kk.2,rfl,rfl⟩,hBW⟩)
structure Fine (q:Qy):Prop where
 p:chkP q.p = 0
 key:q.key = ⟨#[]⟩ ∨ nameB q.key = true
 it:∀ i,i < q.m→rightI (q.it i) = true
 v:∀ j,j < (fstL q.p).length→nameB (fstV q.p j) = true
 pos:0 < (fstL q.p).length
theorem uses_some:∀ {x:Pt},rightP x = true→usesP x ≠ []:=by
 refine @(Pt.ind fun x ih h=>?_)
 rw [rightP_eq,Bool.and_eq_true,allN_true] at h
 rw [usesP_eq]
 by_cases hk:nmd x.k = true
 · rw [if_pos hk];simp
 · have h1:=h.1
   unfold rightN at h1
   simp only [nmd,Bool.or_eq_true,beq_iff_eq,not_or] at hk
   rw [if_neg (show ¬ x.k = 5 from hk.1.2),if_neg (show ¬ (x.k = 1 ∨ x.k = 6) from fun q=>q.elim hk.1.1 hk.2)] at h1
   split at h1
   · simp only [rowB,Bool.and_eq_true,decide_eq_true_eq] at h1
     have h0:0 < x.n:=by omega
     have:=ih 0 h0 (h.2 0 h0)
     obtain ⟨y,hy⟩:=List.exists_mem_of_ne_nil _ this
     exact List.ne_nil_of_mem (List.mem_append.2 (.inr (mem_catN.2 ⟨0,h0,hy⟩)))
   · cases h1
theorem use_name {x y:Pt} (h:rightP x = true) (hy:y ∈ usesP x):nameB y.s = true∧nameB y.t = true:=by
 obtain ⟨d,hv,hk⟩:=mem_uses.1 hy
 have:=(right_vis x 1).1 h (d,y) hv
 unfold rightN at this
 simp only [nmd,Bool.or_eq_true,beq_iff_eq] at hk
 rcases hk with (hk | hk) | hk
 all_goals simp [isRow,hk,leafB,manyB] at this
 all_goals exact ⟨this.1,this.2.1⟩
theorem fine_of {q:Qy} (h:chkQ q = 0):Fine q:=by
 have h':∀ i,i < 9→clN q i = 0:=lexN_zero.1 h
 have hp:chkP q.p = 0:=h' 0 (by omega)
 have hr:=(chkP_zero.1 hp).2.2
 have hpos:0 < (fstL q.p).length:=by
  rw [List.length_pos_iff]
  intro e
  obtain ⟨y,hy⟩:=List.exists_mem_of_ne_nil _ (uses_some hr)
  obtain ⟨f,hf,_⟩:=firstL_has hy
  rw [show firstL (usesP q.p) = [] from e] at hf
  cases hf
 refine ⟨hp,?_,?_,fun j hj=>?_,hpos⟩
 · have:argB (decide (q.key = ⟨#[]⟩) || nameB q.key) = 0:=h' 5 (by omega)
   unfold argB at this
   split at this
   · rename_i hh
     simpa using hh
   · cases this
 · have:cl9 q = 0:=h' 8 (by omega)
   unfold cl9 at this
   split at this
   · rename_i hh;exact hh.1
   · cases this
 · have hm:(fstL q.p)[j] ∈ usesP q.p:=mem_firstL (List.getElem_mem hj)
   have:=(use_name hr hm).1
   simpa [fstV,atS,hj] using this
theorem key_any (w0 W:World) (b:Nat) (bk:Value) (q:Qy) (ns:Nat) (Q:Nat→Sch) (N T:Addr) (h:Ctx w0 W b bk q ns Q N T) (hF:Fine q) (hk:¬ q.key = ⟨#[]⟩) :
 Calls Tryz.prog 69 #[.pointer (some ⟨b,0,none⟩)] W fun e w'=>∃ z v,e = .returned v∧FstR (KeyR (lookW q.p ns Q) (fstV q.p) q.key) (fstL q.p).length z∧ErrW z v∧Below W.heap.size W w':=by
 have hkn:nameB q.key = true:=hF.key.resolve_left hk
 obtain ⟨A,hA⟩:∃ A,W.alloc (.cells #[.pointer (some ⟨b,0,none⟩)] 56) = A:=⟨_,rfl⟩
 have hBA:Below W.heap.size W A:=by rw [← hA];exact (Below.refl _ W).alloc (Nat.le_refl _) _
 have hbA:Boxed A W.heap.size 56 (.pointer (some ⟨b,0,none⟩)):=by rw [← hA];exact Boxed.new W _ _
 have hC:=h.later hBA
 obtain ⟨av,cv,a6,c6,a5,c5,po,hAB,hTx,-⟩:=hC.ask
 obtain ⟨g,o,rfl,hcs⟩:=hTx hF.pos
 obtain ⟨-,d8,-⟩:=hAB.rest
 have c1:=hbA.cell
 obtain ⟨kk,hkk⟩:∃ kk,kk = kindF (lookW q.p ns Q) (fstV q.p 0) q.key:=⟨_,rfl⟩
 have CK:Hid (∀ d,Below A.heap.size A d→Calls Tryz.prog 118 #[.pointer (some ⟨b,0,none⟩),.string (fstV q.p 0),.string q.key] d (RV (.tuple #[.int .i64 kk.1,.int .i64 kk.2]) d)):=fun d hd=>by rw [hkk];exact kindW_any w0 d b bk q ns Q N T (hC.later hd) _ _ (hF.v 0 hF.pos) hkn
 have HCE:Hid (∀ (g0:Nat) (Z:World),Below A.heap.size A Z→Z.cell? ⟨g0,0,none⟩ = some (.int .i64 kk.1)→Calls Tryz.prog 119 #[.slice (some ⟨g,o,none⟩) (fstL q.p).length cv,.func (.func 120) #[] #[.pointer (some ⟨W.heap.size,0,none⟩),.pointer (some ⟨g0,0,none⟩)]] Z fun e w'=>∃ z v,e = .returned v∧FstR (KeyR (lookW q.p ns Q) (fstV q.p) q.key) (fstL q.p).length z∧ErrW z v∧Below Z.heap.size Z w'):=fun g0 Z hZ hg=>by
  refine eachS_any (some ⟨g,o,none⟩) _ cv (fstV q.p) Z ?_ (hTx.later hZ) (KeyR (lookW q.p ns Q) (fstV q.p) q.key) _ _ fun i hi d hd=>?_
  · have h1:=length_firstL (usesP q.p)
    have h2:=length_uses q.p
    have h3:=h.sm
    unfold Qy.bulk at h3
    show (firstL (usesP q.p)).length ≤ _
    omega
  · have hd2:=hZ.trans (hd.mono hZ.size)
    have:=key1_any w0 d b bk q ns Q N T (hC.later hd2) (fstV q.p i) (hF.v i hi) hkn W.heap.size g0 kk.1 (cell_later c1 hd2) (cell_later hg hd)
    refine this.mono ?_
    rintro e w' ⟨z,r,rfl,hz,hr,hB⟩
    exact ⟨z,r,rfl,by rw [hz,hkk];rfl,hr,hB⟩
 have HFIN:Hid (∀ z,FstR (KeyR (lookW q.p ns Q) (fstV q.p) q.key) (fstL q.p).length z→FstR (KeyR (lookW q.p ns Q) (fstV q.p) q.key) (fstL q.p).length z):=fun _ h=>h
 have HC1:=hid c1
 have HV0:Hid (A.cell? ⟨g,o,none⟩ = some (.string (fstV q.p 0))):=hcs 0 hF.pos
 have HAB1:=hid hAB
 have HBW1:=hid hBA
 have hpos:0 < (fstL q.p).length:=hF.pos
 have ts:q.key.toList.isEmpty = false:=by
  have h9:=str_not hk
  rw [show (⟨#[]⟩:ByteArray).toList = [] by rw [ByteArray.toList_eq]] at h9
  cases e:q.key.toList with
  | nil=>rw [e] at h9;cases h9
  | cons _ _=>rfl
 obtain ⟨n,hn⟩:∃ n,n = (fstL q.p).length:=⟨_,rfl⟩
 rw [← hn] at HCE HFIN HAB1 hpos ⊢
 obtain ⟨W1,hW1⟩:∃ W1,W1 = A:=⟨_,rfl⟩
 clear h hF hk hkn hC hAB hTx hcs hkk hBA hbA hn
 go_enter Tryz.func69,Tryz.ntmps69
 go_wp2
 rw [← hW1] at HCE HC1 HV0 HAB1 HBW1 CK ⊢
 clear hW1
 refine bg fun d hHeld=>?_
 have hT:=hHeld
 refine tk 0 ?_ (hy:=fun w9 hSw=>by have cc:=cell_later HC1.out hSw;go_simp;(try with_reducible rfl))
 refine tk 1 ?_ (hy:=fun w9 hSw=>by have cc:=cell_later HC1.out hSw;go_simp;(try with_reducible rfl))
 refine tk 2 ?_
 refine tk 3 ?_
 refine tk 4 ?_ (hy:=fun w9 hSw=>by obtain ⟨g12,-⟩:=(HAB1.out.later hSw).made;go_simp;(try with_reducible rfl))
 refine tk 5 ?_
 refine tk 6 ?_ (hy:=fun w9 hSw=>by have cc:=cell_later HV0.out hSw;go_simp;(try with_reducible rfl))
 refine tk 7 ?_ (hy:=fun w9 hSw=>by have cc:=cell_later HC1.out hSw;go_simp;(try with_reducible rfl))
 refine tk 8 ?_
 refine tk 9 ?_
 refine tk 10 ?_
 refine tk 11 ?_ (hy:=fun w9 hSw=>by obtain ⟨-,g8,-⟩:=(HAB1.out.later hSw).rest;go_simp;(try with_reducible rfl))
 refine wpAnyH_ready (rs:=[12,16]) (by kernel_rfl) (by simp) ?_
 refine AllReadyH.cons (o:=⟨some 24,.call { callee:=.value (.func 118),args:=#[.tmp 12,.tmp 18,.tmp 23],argTypes:=#[56,9,9] },175,_,_,_⟩) rfl (fun K hK=>?wayA) (AllReadyH.cons (o:=⟨some 3,.alloc 3,0,_,_,_⟩) rfl (fun K hK=>?wayB) AllReadyH.nil)
 case wayA =>
  go_simp
  refine (CK.out d hT).mono ?_
  rintro e x12 ⟨rfl,hN12⟩
  go_wp2_with fail
  have hT8:Below W1.heap.size W1 x12:=hT.trans (hN12.mono hT.size)
  refine hK.out _ _ hT8 (fun hHeld=>?_)
  clear hK K hT;have hT:Below W1.heap.size W1 x12:=hT8;clear hT8
  try simp only [Act.put,s_put,s_0,s_1]
  refine tk 13 ?_
  refine tk 14 ?_
  refine tk 15 ?_
  refine rd 16 fun K hK=>?_
  go_simp
  have hT2:Below W1.heap.size W1 (x12.alloc (.cells #[.int .i64 0] 3)):=hT.alloc hT.size _
  refine hK.out _ _ hT2 (fun hHeld=>?_)
  clear hK K
  try simp only [Act.put,s_put,s_0,s_1]
  refine rd 17 fun K hK=>?_
  go_simp
  obtain ⟨Z,hZ⟩:∃ Z,x12.alloc (.cells #[.int .i64 kk.1] 3) = Z:=⟨_,rfl⟩
  have hTZ:Below W1.heap.size W1 Z:=by rw [← hZ];exact hT.alloc hT.size _
  have hbZ:Boxed Z x12.heap.size 3 (.int .i64 kk.1):=by rw [← hZ];exact Boxed.new x12 _ _
  first | rw [hZ] | skip
  refine hK.out _ _ hTZ (fun hHeld=>?_)
  clear hK K
  try simp only [Act.put,s_put,s_0,s_1]
  refine tk 18 ?_
  refine dn ?_
  have CE:=HCE.out x12.heap.size Z hTZ hbZ.cell
  have cz1:=cell_later HC1.out hTZ
  obtain ⟨cz12,-⟩:=(HAB1.out.later hTZ).made
  clear hHeld hbZ hZ
  go_wp2_with (go_at_call 119;refine CE.mono ?_;clear CE;rintro e w4 ⟨z4,v4,rfl,hz4,hv4,hB4⟩)
  go_ret
  exact ⟨z4,v4,rfl,HFIN.out z4 hz4,hv4,HBW1.out.trans ((hTZ.trans (hB4.mono hTZ.size)).mono HBW1.out.size)⟩
 case wayB =>
  go_simp
  have hT2:Below W1.heap.size W1 (d.alloc (.cells #[.int .i64 0] 3)):=hT.alloc hT.size _
  refine hK.out _ _ hT2 (fun hHeld=>?_)
  clear hK K
  try simp only [Act.put,s_put,s_0,s_1]
  obtain ⟨e9,he9⟩:∃ e9,e9 = d.alloc (.cells #[.int .i64 0] 3):=⟨_,rfl⟩
  have hb9:Boxed e9 d.heap.size 3 (.int .i64 0):=by rw [he9];exact Boxed.new d _ _
  have hsd:W1.heap.size ≤ d.heap.size:=hT.size
  rw [← he9] at hT2 hHeld ⊢
  clear hT;have hT:=hT2;clear hT2 he9
  refine rd 12 fun K hK=>?_
  go_simp
  refine (CK.out e9 hT).mono ?_
  rintro e x12 ⟨rfl,hN12⟩
  go_wp2_with fail
  have hT8:Below W1.heap.size W1 x12:=hT.trans (hN12.mono hT.size)
  refine hK.out _ _ hT8 (fun hHeld=>?_)
  clear hK K hT;have hT:Below W1.heap.size W1 x12:=hT8;clear hT8
  try simp only [Act.put,s_put,s_0,s_1]
  refine tk 13 ?_
  refine tk 14 ?_
  refine tk 15 ?_
  have bb:=Boxed.kept_of hb9 hN12 hb9.lt
  have bc:=bb.cell
  have bf:=bb.frozen
  refine rd 17 fun K hK=>?_
  go_simp
  obtain ⟨Z,hZ⟩:∃ Z,x12.setCell ⟨d.heap.size,0,none⟩ (.int .i64 kk.1) = Z:=⟨_,rfl⟩
  have hTZ:Below W1.heap.size W1 Z:=by rw [← hZ];exact hT.setCell (p:=⟨d.heap.size,0,none⟩) hsd _
  have hbZ:Boxed Z d.heap.size 3 (.int .i64 kk.1):=by rw [← hZ];exact bb.set _
  first | rw [hZ] | skip
  refine hK.out _ _ hTZ (fun hHeld=>?_)
  clear hK K
  try simp only [Act.put,s_put,s_0,s_1]
  refine tk 18 ?_
  refine dn ?_
  have CE:=HCE.out d.heap.size Z hTZ hbZ.cell
  have cz1:=cell_later HC1.out hTZ
  obtain ⟨cz12,-⟩:=(HAB1.out.later hTZ).made
  clear hHeld hbZ hZ
  go_wp2_with (go_at_call 119;refine CE.mono ?_;clear CE;rintro e w4 ⟨z4,v4,rfl,hz4,hv4,hB4⟩)
  go_ret
  exact ⟨z4,v4,rfl,HFIN.out z4 hz4,hv4,HBW1.out.trans ((hTZ.trans (hB4.mono hTZ.size)).mono HBW1.out.size)⟩
end Go.Proofs.YtkfpgkohkhhlhaaGreatDoor
