/- Texts that the last one stands on. -/
import Derived.Test.YtkfpgkohkhhlhaaGreatDoorSExprCheck
set_option maxRecDepth 100000
set_option maxHeartbeats 4000000
namespace Go.Proofs.YtkfpgkohkhhlhaaGreatDoor
open Go.RowKit
theorem intoAll_snoc (s:ByteArray):∀ (m l:List ByteArray),intoAll l (m ++ [s]) = intoL s (intoAll l m)
 | [],l=>rfl
 | a :: m,l=>by
   show intoAll (intoL a l) (m ++ [s]) = intoL s (intoAll (intoL a l) m)
   exact intoAll_snoc s m _
theorem into_len (s:ByteArray):∀ l:List ByteArray,(intoL s l).length ≤ l.length + 1
 | []=>by simp [intoL]
 | a :: l=>by
   have:=into_len s l
   simp only [intoL]
   split
   · simp
   · split
     · simp
     · simp;omega
theorem intoAll_len:∀ (m l:List ByteArray),(intoAll l m).length ≤ l.length + m.length
 | [],l=>by simp [intoAll]
 | a :: m,l=>by
   have h1:=intoAll_len m (intoL a l)
   have h2:=into_len a l
   simp only [intoAll,List.length_cons]
   omega
theorem accN_len (l:List ByteArray) (f:Nat→List ByteArray) (g:Nat→Nat):∀ n,(∀ i,i < n→(f i).length ≤ g i)→(accN l f n).length ≤ l.length + sumN g n
 | 0,_=>by simp [accN,sumN]
 | n + 1,h=>by
   have h1:=accN_len l f g n fun i hi=>h i (by omega)
   have h2:=h n (by omega)
   have h3:=intoAll_len (f n) (accN l f n)
   simp only [accN,sumN]
   omega
theorem vars_len:∀ x:X,(varsX x).length ≤ x.size:=by
 refine X.ind fun x ih=>?_
 rw [varsX_eq,x.size_eq]
 have h:=accN_len (if x.k = 2 then [x.s] else []) (fun i=>varsX (x.c i)) (fun i=>(x.c i).size) x.n ih
 have h1:(if x.k = 2 then [x.s] else ([]:List ByteArray)).length ≤ 1:=by split <;> simp
 omega
theorem take_snoc (l:List ByteArray) (k:Nat) (h:k < l.length):l.take (k + 1) = l.take k ++ [atS l k]:=by
 rw [List.take_add_one]
 simp [atS,h]
theorem cnt_small:∀ n:Nat,n ≤ 1048576→cnt n = n
 | 0,_=>rfl
 | n + 1,h=>by
   simp only [cnt]
   rw [cnt_small n (by omega),wrap64]
   omega
open Go.Shelf
attribute [local go_sem] Oper.semAt_some
theorem back1_out (n l Bs:Nat) (av:Option Addr) (m cap:Nat) (S:Nat→ByteArray) (J:Nat→World→Prop) (X:World→Prop) (W:World) (hm:m ≤ 1048576) (h0:J m W)
 (hB:∀ k W,J k W→W.cell? ⟨Bs,0,none⟩ = some (.slice av m cap)∧Txs W av m S)
 (hY:∀ (m' k:Nat) (W:World),k < m→J (k + 1) W→YieldAt Fence.wide m' Tryz.prog l #[.int .i64 (k:Nat),.string (S k)] W fun e W'=>(e = .returned (.bool true)∧J k W') ∨ (e = .returned (.bool false)∧X W')) :
 CallsIn Fence.wide n Tryz.prog 179 #[.func (.yield l) #[] #[],.pointer (some ⟨Bs,0,none⟩)] W fun e W'=>(∃ v,e = .returned v)∧(J 0 W' ∨ X W'):=by
 have hdd:∀ k:Nat,(Fence.wide.depth.isSome = true→1 ≤ k):=fun k h=>by cases h
 have c0:=(hB m W h0).1
 refine callsIn_of_wp Tryz.func179 rfl trivial ?_ rfl
 simp only [Tryz.ntmps179,List.size_toArray,List.length_cons,List.length_nil,Nat.reduceAdd,Nat.reduceSub,Array.replicate_succ,Array.replicate_zero,List.push_toArray,List.append_toArray,List.nil_append,List.cons_append]
 gi_wp2
 gi_loopw [3] (fun u wr=>∃ k:Nat,k ≤ m∧u = .int .i64 ((k:Int) - 1)∧J k wr) (fun u _=>(intOf u + 1).toNat)
 case atStart=>exact ⟨m,Nat.le_refl _,by go_num,h0⟩
 case round =>
  obtain ⟨k,hk,rfl,hj⟩:=hrel
  match k,hk,hj with
  | 0,hk,hj =>
    gi_wp2
    go_end0
    exact ⟨⟨_,rfl⟩,.inl hj⟩
  | k + 1,hk,hj =>
    obtain ⟨c1,hx⟩:=hB _ _ hj
    obtain ⟨b,o,rfl,hc⟩:=hx (by omega)
    have c2:=hc k (by omega)
    have e1:(((k + 1:Nat):Int) - 1) = (k:Int):=by omega
    obtain ⟨fn,tmps,assign,body,hy,hR⟩:=hY (n - 1) k wr (by omega) hj
    clear hc hx hY
    rw [e1]
    gi_wp2_with (first
     | ((try refine ⟨hdd _,?_⟩);refine hR.mono ?_;clear hR;rintro e W1 (⟨rfl,hj1⟩ | ⟨rfl,hx1⟩)))
    · exact ⟨⟨k,by omega,by go_num,hj1⟩,by simp [intOf]⟩
    · exact bodyPost_ret (v:=.tuple #[]) (by simp [results,Tryz.results179,go_sem]) rfl ⟨⟨_,rfl⟩,.inr hx1⟩
def outPost (B:Nat) (J X:World→Prop) (W:World):Exit→Act→World→Prop
 | .normal,_,W'=>KeepsFrom B W W'∧Kp (fun k=>k < B) W W'∧J W'
 | .ret,_,W'=>KeepsFrom B W W'∧X W'
 | _,_,_=>False
theorem back_out {n:Nat} {g:Operand} {ps:Array Tmp} {assign body:Code} {Q:Exit→Act→World→Prop} {a:Act} {w:World} (Bs:Nat) (av:Option Addr) (m cap:Nat) (S:Nat→ByteArray) (J:Nat→World→Prop) (X:World→Prop)
 (hg:a.eval g = .func (.func 179) #[] #[.pointer (some ⟨Bs,0,none⟩)]) (hps:ps.size = 2) (hBs:Boxed w Bs 37 (.slice av m cap)) (hx:Txs w av m S) (hm:m ≤ 1048576)
 (hJ:∀ k W A,Ag w.heap.size W A→J k W→J k A) (hXA:∀ W A,Ag w.heap.size W A→X W→X A) (h0:∀ W,Below w.heap.size w W→J m W)
 (a₁:Nat→Act)
 (hassign:∀ (l k:Nat) (W:World) (K:Act→World→Prop),K (a₁ k) W →
   assign.wpIn (Fence.wide.inRound l) (n - 1 - 1) Tryz.prog (Exit.then K (fun _ _ _=>False)) { tmps:=(ps.zip #[.int .i64 k,.string (S k)]).foldl (fun t (p,v)=>t.setIfInBounds p v) a.tmps,defers:=[] } W)
 (hbody:∀ (l k:Nat) (W:World),k < m→J (k + 1) W→w.heap.size + 2 ≤ W.heap.size →
   body.wpIn (Fence.wide.inRound l) (n - 1 - 1) Tryz.prog (outPost w.heap.size (J k) X W) (a₁ k) W)
 (hdone:∀ (D:Nat) (W:World),w.heap.size ≤ D→J 0 W→W.heap[D]? = some (.deferred (some []))→Q .normal { a with defers:={ target:=.collected D,args:=#[] } :: a.defers } W)
 (hstop:∀ (D:Nat) (W:World),w.heap.size ≤ D→X W→W.heap[D]? = some (.deferred (some []))→Code.ret.wpIn Fence.wide n Tryz.prog Q { a with defers:={ target:=.collected D,args:=#[] } :: a.defers } W) :
 (Code.rangeFunc g ps assign body).wpIn Fence.wide n Tryz.prog Q a w:=by
 have hlt:Bs < w.heap.size:=hBs.lt
 refine wpIn_range (α:=Nat) hg (enters_of Tryz.func179 (by kernel_rfl) rfl) (encs:=fun k=>#[.int .i64 k,.string (S k)]) (fun _=>hps.symm)
  (fun k W=>k < m∧J (k + 1) W∧w.heap.size + 2 ≤ W.heap.size)
  (fun k W W'=>Kp (fun k=>k < w.heap.size) W W'∧J k W'∧w.heap.size + 2 ≤ W'.heap.size)
  (fun c _ _ W'=>c = .ret∧X W') (J 0) (fun c W=>c = .ret∧X W) ?_ ?_ (fun _ _ _ _ _ W' _ hag h=>⟨h.1,hXA _ _ hag h.2⟩) (fun W A h=>hJ _ W A h) (fun _ _ _ hag h=>⟨h.1,hXA _ _ hag h.2⟩) a₁ hassign ?_ ?_ hdone (fun D c W hD h hK=>by obtain ⟨rfl,h⟩:=h;exact hstop D W hD h hK)
 · rintro k W A hag ⟨h1,h2,h3⟩
   exact ⟨h1,hJ _ _ _ hag h2,by rw [hag.size];exact h3⟩
 · rintro k W A A' W' hag hag' ⟨h1,h2,h3⟩
   exact ⟨Kp.ag hag hag' h1,hJ _ _ _ hag' h2,by rw [hag'.size];exact h3⟩
 · rintro l k W ⟨h1,h2,h3⟩ _
   refine wpIn_mono (hbody l k W h1 h2 h3) ?_
   rintro e a3 W3 hp
   cases e with
   | normal=>exact ⟨hp.1,hp.2.1,hp.2.2,Nat.le_trans h3 hp.1.size⟩
   | ret=>exact ⟨hp.1,rfl,hp.2⟩
   | exit id=>exact hp.elim
   | goto t=>exact hp.elim
   | panic ch=>exact hp.elim
   | outgrown=>exact hp.elim
 · intro l Rec RecX W1 hB1 hs1 hrec1 hrec hrecx hY
   refine (back1_out (n - 1) l Bs av m cap S (fun k W=>J k W∧Rec W∧Kp (fun k=>k < w.heap.size) w W∧w.heap.size + 2 ≤ W.heap.size) (fun W=>∃ c,(c = .ret∧X W)∧RecX c W) W1 hm ⟨h0 W1 hB1,hrec1,Kp.of_below hB1 fun _ h=>h,by omega⟩ ?_ ?_).mono ?_
   · rintro k W ⟨h1,h2,h3,h4⟩
     refine ⟨(h3.boxed hlt hBs).cell,fun hm0=>(Txs.kept h3 (fun b o e=>Txs.lt hx hm0 e) hx) hm0⟩
   · rintro m' k W hk ⟨h1,h2,h3,h4⟩
     refine YieldAt.mono (hY m' k W ⟨hk,h1,h4⟩ h2) ?_
     rintro e W' (⟨rfl,⟨k1,k2,k3⟩,k4,-⟩ | ⟨rfl,c,k1,k2⟩)
     · exact .inl ⟨rfl,k2,k4,h3.trans k1,k3⟩
     · exact .inr ⟨rfl,c,k1,k2⟩
   · rintro e W' ⟨hv,h | h⟩
     · exact ⟨hv,.inl ⟨h.1,h.2.1⟩⟩
     · exact ⟨hv,.inr h⟩
open Go.ChangeShapes Go.WideShapes
section
variable {H:Type} {enc:TypeId × Value→H} {w:World} {base:Nat} {spare:Nat→Bool} {held:Bool}
theorem val_under:∃ f0 f1 f2:Field,Tryz.prog.underlying 52 = some (.struct #[f0,f1,f2])∧f0.offset = 0∧f1.offset = 1∧f2.offset = 2∧f0.type = 3∧f1.type = 2∧f2.type = 9:=⟨_,_,_,Tryz.underlying52,rfl,rfl,rfl,rfl,rfl,rfl⟩
theorem cells_v:Tryz.prog.cellsOf 52 = 3:=by kernel_rfl
theorem cells_n:Tryz.prog.cellsOf 2 = 1:=by kernel_rfl
theorem trod_val {fuel:Nat} {cs:List Value} {x:DataW H × List MemPlace} (h:DataW.trod enc Tryz.prog w base spare held fuel 52 cs = some x) :
 ∃ q:Val,cs = [.int .i64 q.k,.int .i64 q.n,.string q.s]:=by
 obtain ⟨f0,f1,f2,hu,o0,o1,o2,t0,t1,t2⟩:=val_under
 obtain ⟨y0,y1,y2,m,rfl,hl,g0,g1,g2⟩:=Deep.trod_struct3 hu h
 rw [cells_v] at hl
 rw [o0,t0,cells_i] at g0
 rw [o1,t1,cells_n] at g1
 rw [o2,t2,cells_s] at g2
 match cs,hl with
 | [c0,c1,c2],_ =>
   obtain ⟨k,e0,rfl,w0⟩:=DataW.trod_int Tryz.underlying3 g0
   obtain ⟨n,e1,rfl,w1⟩:=DataW.trod_int Tryz.underlying2 g1
   obtain ⟨s,e2,rfl,w2⟩:=DataW.trod_string Tryz.underlying9 g2
   simp at e0 e1 e2
   subst e0 e1 e2
   exact ⟨⟨k,n,s⟩,rfl⟩
end
end Go.Proofs.YtkfpgkohkhhlhaaGreatDoor
