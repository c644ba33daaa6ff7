/- Texts that the last one stands on. -/
import Derived.Test.YtkfpgkohkhhlhaaGreatDoorSPatCheck
set_option maxRecDepth 100000
set_option maxHeartbeats 4000000
namespace Go.Proofs.YtkfpgkohkhhlhaaGreatDoor
open Go.RowKit Go.Shelf
attribute [local go_sem] Oper.semAt_some
theorem nodesP_foldJ {n:Nat} {g:Operand} {ps:Array Tmp} {assign body:Code} {Q:Exit→Act→World→Prop} {a:Act} {w:World} (Bp b0 o0:Nat) (x:Pt) (T:Nat→Prop) (J:List (Nat × Pt)→World→Prop) (Jx:Code→World→Prop)
 (hg:a.eval g = .func (.func 107) #[] #[.pointer (some ⟨Bp,0,none⟩)]) (hps:ps.size = 2) (hBp:w.cell? ⟨Bp,0,none⟩ = some (.pointer (some ⟨b0,o0,none⟩))) (hbd:∀ L W,J L W→∀ v ∈ L,v.1 ≤ 1048576)
 (hT:∀ k,T k→k < w.heap.size) (hb0:T b0) (hN:NodeP w b0 o0 x) (hX:PT T w x)
 (hJ:∀ pre W A,Ag w.heap.size W A→J pre W→J pre A) (hJd:∀ pre W,J pre W→J pre W.drew) (h0:∀ W,Below w.heap.size w W→J [] W) (hJx:∀ c W A,Ag w.heap.size W A→Jx c W→Jx c A)
 (a₁:Nat→Nat→Nat→Act)
 (hassign:∀ (l d b o:Nat) (W:World) (K:Act→World→Prop),K (a₁ d b o) W →
   assign.wpIn (Fence.wide.inRound l) (n - 1 - 1) Tryz.prog (Exit.then K (fun _ _ _=>False)) { tmps:=(ps.zip #[.int .i64 d,.pointer (some ⟨b,o,none⟩)]).foldl (fun t (p,v)=>t.setIfInBounds p v) a.tmps,defers:=[] } W)
 (hbody:∀ (l d b o:Nat) (y:Pt) (pre:List (Nat × Pt)) (W:World),T b→NodeP W b o y→PT T W y→J pre W→w.heap.size + 4 ≤ W.heap.size→(∃ post,pre ++ (d,y) :: post = visP 1 x) →
   body.wpIn (Fence.wide.inRound l) (n - 1 - 1) Tryz.prog (foldPost w.heap.size (fun k=>T k ∨ k = w.heap.size + 2 ∨ k = w.heap.size + 3) (J (pre ++ [(d,y)])) Jx W) (a₁ d b o) W)
 (hdone:∀ (D:Nat) (W:World),w.heap.size ≤ D→J (visP 1 x) W→W.heap[D]? = some (.deferred (some []))→Q .normal { a with defers:={ target:=.collected D,args:=#[] } :: a.defers } W)
 (hstop:∀ (D:Nat) (c:Code) (W:World),w.heap.size ≤ D→Jx c W→W.heap[D]? = some (.deferred (some []))→c.wpIn Fence.wide n Tryz.prog Q { a with defers:={ target:=.collected D,args:=#[] } :: a.defers } W) :
 (Code.rangeFunc g ps assign body).wpIn Fence.wide n Tryz.prog Q a w:=by
 obtain ⟨T',hT'⟩:∃ T':Nat→Prop,T' = fun k=>T k ∨ k = w.heap.size + 2 ∨ k = w.heap.size + 3:=⟨_,rfl⟩
 have tT:∀ k,T k→T' k:=fun k hk=>by rw [hT'];exact .inl hk
 refine wpIn_range (α:=VisP) hg (enters_of Tryz.func107 (by kernel_rfl) rfl) (encs:=fun v=>#[.int .i64 v.d,.pointer (some ⟨v.b,v.o,none⟩)]) (fun _=>hps.symm)
  (fun v W=>T v.b∧NodeP W v.b v.o v.y∧PT T W v.y∧J v.pre W∧w.heap.size + 4 ≤ W.heap.size∧∃ post,v.pre ++ (v.d,v.y) :: post = visP 1 x)
  (fun v W W'=>Kp T' W W'∧J (v.pre ++ [(v.d,v.y)]) W'∧w.heap.size + 4 ≤ W'.heap.size)
  (fun c _ _ W'=>Jx c W') (J (visP 1 x)) Jx ?_ ?_ ?_ (fun W A h=>hJ _ W A h) hJx (fun v=>a₁ v.d v.b v.o) (fun l v W K hK=>hassign l v.d v.b v.o W K hK) ?_ ?_ hdone hstop
 · rintro v W A hag ⟨h1,h2,h3,h4,h5,h6⟩
   exact ⟨h1,h2.ag hag,h3.of fun p v h=>(hag.cell p).trans h,hJ _ _ _ hag h4,by rw [hag.size];exact h5,h6⟩
 · rintro v W A A' W' hag hag' ⟨h1,h2,h3⟩
   exact ⟨Kp.ag hag hag' h1,hJ _ _ _ hag' h2,by rw [hag'.size];exact h3⟩
 · rintro c v W A A' W' hag hag' h
   exact hJx _ _ _ hag' h
 · rintro l v W ⟨h1,h2,h3,h4,h5,h6⟩ _
   refine wpIn_mono (hbody l v.d v.b v.o v.y v.pre W h1 h2 h3 h4 h5 h6) ?_
   rintro e a3 W3 hp
   cases e with
   | normal=>exact ⟨hp.1,by rw [hT'];exact hp.2.1,hp.2.2,Nat.le_trans h5 hp.1.size⟩
   | ret=>exact hp
   | exit id=>exact hp
   | goto t=>exact hp
   | panic ch=>exact hp.elim
   | outgrown=>exact hp.elim
 · intro l Rec RecX W1 hB1 hs1 hrec1 hrec hrecx hY
   have hkT:Kp T w W1:=Kp.of_below hB1 hT
   have hlt:Bp < w.heap.size:=by
    obtain ⟨ob,ho,-⟩:=cells_of_cell hBp
    exact (Array.getElem?_eq_some_iff.1 ho).1
   refine (nodesP1_in (n - 1) l Bp b0 o0 W1 (fun e W'=>(e = .returned (.bool true)∧J (visP 1 x) W'∧Rec W') ∨ (e = .returned (.bool false)∧∃ c,Jx c W'∧RecX c W')) ((hB1.cell (p:=⟨Bp,0,none⟩) hlt).trans hBp) ?_).mono ?_
   · intro W2 by2 bd2 hB2 hs2
     have key:=downP_any (ι:=Nat × Pt × List (Nat × Pt)) l W1.heap.size (W1.heap.size + 1) (fun v=>v.2.1.n) (fun v i=>(v.1 + 1,v.2.1.c i,v.2.2 ++ (v.1,v.2.1) :: catN (fun i=>visP (v.1 + 1) (v.2.1.c i)) i)) (fun v=>v.2.1.size)
      (fun v b o d W=>((v.1:Nat):Int) = d∧T b∧NodeP W b o v.2.1∧PT T W v.2.1∧J v.2.2 W∧Rec W∧Boxed W W1.heap.size 165 (.func (.yield l) #[] #[])∧Boxed W (W1.heap.size + 1) 165 (downPV W1.heap.size (W1.heap.size + 1))∧w.heap.size + 4 ≤ W.heap.size∧(∃ post,v.2.2 ++ (visP v.1 v.2.1 ++ post) = visP 1 x))
      (fun v b o d W a cap i Wi=>a = v.2.1.a∧cap = v.2.1.cap∧((v.1:Nat):Int) = d∧T b∧NodeP Wi b o v.2.1∧PT T Wi v.2.1∧J (v.2.2 ++ (v.1,v.2.1) :: catN (fun i=>visP (v.1 + 1) (v.2.1.c i)) i) Wi∧Rec Wi ∧
        Boxed Wi W1.heap.size 165 (.func (.yield l) #[] #[])∧Boxed Wi (W1.heap.size + 1) 165 (downPV W1.heap.size (W1.heap.size + 1))∧w.heap.size + 4 ≤ Wi.heap.size∧Kp T' W Wi∧(∃ post,v.2.2 ++ (visP v.1 v.2.1 ++ post) = visP 1 x))
      (fun v b o d W W'=>J (v.2.2 ++ visP v.1 v.2.1) W'∧Rec W'∧Kp T' W W'∧w.heap.size + 4 ≤ W'.heap.size)
      (fun v b o d W W'=>∃ c,Jx c W'∧RecX c W')
      (fun v i hi=>Pt.size_part v.2.1 i hi) (fun v b o d W h=>h.2.2.2.2.2.2.1.cell) ?_ ?_ ?_ ?_ (x.size + 1) (1,x,[]) (by simp) (n - 1 - 1) b0 o0 1 W2 ?_
     · refine key.mono ?_
       rintro e W' (⟨rfl,h1,h2,-⟩ | ⟨rfl,h⟩)
       · exact ⟨true,rfl,.inl ⟨rfl,by simpa using h1,h2⟩⟩
       · exact ⟨false,rfl,.inr ⟨rfl,h⟩⟩
     · rintro ⟨d',y,pre⟩ b o d W ⟨rfl,h1,h2,h3,h4,h5,h6,h7,h8,hN⟩
       have hN':=hN
       obtain ⟨post,hpo⟩:=hN
       refine YieldAt.mono (hY 0 ⟨d',b,o,y,pre⟩ W ⟨h1,h2,h3,h4,h8,by rw [visP_eq d' y] at hpo;exact ⟨_,by simpa using hpo⟩⟩ h5) ?_
       rintro e W' (⟨rfl,⟨k1,k2,k3⟩,k4,-⟩ | ⟨rfl,c,k1,k2⟩)
       · have kT:Kp T W W':=k1.mono tT
         exact .inl ⟨rfl,y.a,y.cap,rfl,rfl,rfl,h1,h2.kept kT h1,h3.kept kT,by simpa [catN] using k2,k4,k1.boxed (by rw [hT'];exact .inr (.inl (by omega))) h6,k1.boxed (by rw [hT'];exact .inr (.inr (by omega))) h7,k3,k1,hN'⟩
       · exact .inr ⟨rfl,c,k1,k2⟩
     · rintro ⟨d',y,pre⟩ b o d W a cap i Wi ⟨rfl,rfl,rfl,h1,h2,h3,h4,h5,h6,h7,h8,h9,hN⟩
       have:=((pT_eq _ _ _).1 h3)
       simp only at this
       exact ⟨by simp only;omega,h2.2.2.2.2.2,h7.cell⟩
     · rintro ⟨d',y,pre⟩ b o d W a cap i Wi ⟨rfl,rfl,rfl,h1,h2,h3,h4,h5,h6,h7,h8,h9,hN⟩ hi
       have hd:d' ≤ 1048576:=hbd _ _ h4 (d',y) (by simp)
       obtain ⟨b',o',ea,hb',hn',hx'⟩:=((pT_eq _ _ _).1 h3).2.2 i hi
       have hw1:IntKind.i64.wrap ((d':Int) + 1) = ((d' + 1:Nat):Int):=by
        simp [IntKind.wrap,IntKind.bits,IntKind.signed]
        omega
       rw [hw1]
       refine ⟨b',o',ea,⟨rfl,hb',hn',PT.of (W:=Wi) (W':=Wi.drew) (fun _ _ h=>h) hx',hJd _ _ h4,hrec Wi Wi.drew ⟨Nat.le_refl _,fun _ _ _ h _=>h⟩ h5,h6,h7,h8,?_⟩,?_,fun W' h=>h⟩
       · obtain ⟨post,hpo⟩:=hN
         obtain ⟨r,hr⟩:=catN_split (fun i=>visP (d' + 1) (y.c i)) hi
         refine ⟨r ++ post,?_⟩
         rw [visP_eq d' y] at hpo
         simp only at hpo ⊢
         rw [← hpo,hr]
         simp
       rintro W' ⟨k1,k2,k3,k4⟩
       have kk:Kp T' Wi W':=k3
       have kT:Kp T Wi W':=kk.mono tT
       exact ⟨rfl,rfl,rfl,h1,h2.kept kT h1,h3.kept kT,by simpa [catN] using k1,k2,kk.boxed (by rw [hT'];exact .inr (.inl (by omega))) h6,kk.boxed (by rw [hT'];exact .inr (.inr (by omega))) h7,k4,h9.trans kk,hN⟩
     · rintro ⟨d',y,pre⟩ b o d W a cap Wi ⟨rfl,rfl,rfl,h1,h2,h3,h4,h5,h6,h7,h8,h9,hN⟩
       exact ⟨by rw [visP_eq];exact h4,h5,h9,h8⟩
     · have hB:Below w.heap.size w W2:=hB1.trans (hB2.mono (by omega))
       have kT:Kp T w W2:=Kp.of_below hB hT
       refine ⟨rfl,hb0,hN.kept kT hb0,hX.kept kT,h0 W2 hB,hrec W1 W2 ⟨by omega,fun k o hk ho _=>?_⟩ hrec1,by2,bd2,by omega,⟨[],by simp⟩⟩
       exact (hB2.block k (Array.getElem?_eq_some_iff.1 ho).1).trans ho
   · rintro e W' ⟨hv,r,(⟨-,h1,h2⟩ | ⟨-,h⟩)⟩
     · exact ⟨hv,.inl ⟨h1,h2⟩⟩
     · exact ⟨hv,.inr h⟩
attribute [local go_sem] Oper.semAt_some
theorem checkPF_in (n:Nat) (x:Pt) (w:World) (hX:IsP w x) :
 CallsIn Fence.wide n Tryz.prog 54 #[x.val] w (RV (.int .i64 (chkP x)) w):=by
 have hdd:∀ k:Nat,(Fence.wide.depth.isSome = true→1 ≤ k):=fun k h=>by cases h
 refine callsIn_of_wp_marks Tryz.func54 rfl trivial ?_ rfl
 simp only [Tryz.ntmps54,List.size_toArray,List.length_cons,List.length_nil,Nat.reduceAdd,Nat.reduceSub,Array.replicate_succ,Array.replicate_zero,List.push_toArray,List.append_toArray,List.nil_append,List.cons_append]
 gi_wp2_with (refine ⟨trivial,hdd _,?_⟩;gi_at_call 56;refine (nodesP_in _ _ _).mono ?_;rintro e w' ⟨rfl,rfl⟩)
 obtain ⟨A,hA⟩:∃ A,(((((w.alloc (.cells x.cells 25)).alloc (.cells #[.int .i64 0] 32)).alloc (.cells #[.int .i64 0] 3)).alloc (.cells #[.int .i64 0] 32)).alloc (.cells #[.pointer (some ⟨w.heap.size,0,none⟩)] 84)) = A:=⟨_,rfl⟩
 have hsz:A.heap.size = w.heap.size + 5:=by rw [← hA];simp
 have hB:Below w.heap.size w A:=by rw [← hA];exact ((((nwB w _).alloc (by simp) _).alloc (by first | (simp;done) | (simp;omega)) _).alloc (by first | (simp;done) | (simp;omega)) _).alloc (by first | (simp;done) | (simp;omega)) _
 have hnode:NodeP A w.heap.size 0 x:=by
  rw [← hA]
  exact (nodeP_new w 25 x).later ((((nwB _ _).alloc (by simp) _).alloc (by first | (simp;done) | (simp;omega)) _).alloc (by first | (simp;done) | (simp;omega)) _)
 have hb1:Boxed A (w.heap.size + 1) 32 (.int .i64 0):=by
  have:=(((Boxed.new (w.alloc (.cells x.cells 25)) 32 (.int .i64 0)).alloc (.cells #[.int .i64 0] 3)).alloc (.cells #[.int .i64 0] 32)).alloc (.cells #[.pointer (some ⟨w.heap.size,0,none⟩)] 84)
  rw [World.size_alloc,hA] at this
  exact this
 have hb2:Boxed A (w.heap.size + 1 + 1) 3 (.int .i64 0):=by
  have:=((Boxed.new ((w.alloc (.cells x.cells 25)).alloc (.cells #[.int .i64 0] 32)) 3 (.int .i64 0)).alloc (.cells #[.int .i64 0] 32)).alloc (.cells #[.pointer (some ⟨w.heap.size,0,none⟩)] 84)
  rw [World.size_alloc,World.size_alloc,hA] at this
  exact this
 have hb3:Boxed A (w.heap.size + 1 + 1 + 1) 32 (.int .i64 0):=by
  have:=(Boxed.new (((w.alloc (.cells x.cells 25)).alloc (.cells #[.int .i64 0] 32)).alloc (.cells #[.int .i64 0] 3)) 32 (.int .i64 0)).alloc (.cells #[.pointer (some ⟨w.heap.size,0,none⟩)] 84)
  rw [World.size_alloc,World.size_alloc,World.size_alloc,hA] at this
  exact this
 have hbp:Boxed A (w.heap.size + 1 + 1 + 1 + 1) 84 (.pointer (some ⟨w.heap.size,0,none⟩)):=by
  have:=Boxed.new ((((w.alloc (.cells x.cells 25)).alloc (.cells #[.int .i64 0] 32)).alloc (.cells #[.int .i64 0] 3)).alloc (.cells #[.int .i64 0] 32)) 84 (.pointer (some ⟨w.heap.size,0,none⟩))
  rw [World.size_alloc,World.size_alloc,World.size_alloc,World.size_alloc,hA] at this
  exact this
 rw [hA]
 refine nodesP_foldJ (w.heap.size + 1 + 1 + 1 + 1) w.heap.size 0 x (fun k=>k < w.heap.size + 1)
  (fun pre W=>Boxed W (w.heap.size + 1) 32 (.int .i64 0)∧Boxed W (w.heap.size + 1 + 1) 3 (.int .i64 (pre.length:Int))∧(∃ sd,Boxed W (w.heap.size + 1 + 1 + 1) 32 (.int .i64 sd)∧SaidP pre sd)∧pre.length ≤ 64∧(∀ v ∈ pre,v.1 ≤ 8)∧Below w.heap.size w W)
  (fun c W=>c = .ret∧(64 < x.size ∨ 8 < x.deep)∧Boxed W (w.heap.size + 1) 32 (.int .i64 2)∧Below w.heap.size w W)
  rfl rfl hbp.cell (fun L W h v hv=>Nat.le_trans (h.2.2.2.2.1 v hv) (by decide)) (fun k hk=>by omega) (by omega) hnode (PIn.xt (n:=w.heap.size) (fun k hk=>by omega) (hX.inn.below hB)) ?_ ?_ ?_ ?_
  (fun d b o=>{ tmps:=#[x.val,.pointer (some ⟨w.heap.size,0,none⟩),.pointer (some ⟨w.heap.size + 1,0,none⟩),.pointer (some ⟨w.heap.size + 1 + 1,0,none⟩),.pointer (some ⟨w.heap.size + 1 + 1 + 1,0,none⟩),.int .i64 d,.pointer (some ⟨b,o,none⟩),.func (.func 107) #[] #[.pointer (some ⟨w.heap.size + 1 + 1 + 1 + 1,0,none⟩)],.int .i64 d,.pointer (some ⟨b,o,none⟩),undef,undef,undef,undef,undef,undef,undef,undef,undef,undef,undef,undef],defers:=[] }) ?_ ?_ ?_ ?_
 · rintro pre W B hag ⟨h1,h2,⟨sd,h3,h4⟩,h5,h7,h6⟩
   exact ⟨hag.boxed h1,hag.boxed h2,⟨sd,hag.boxed h3,h4⟩,h5,h7,hag.below (by omega) h6⟩
 · exact fun pre W h=>⟨h.1,h.2.1,h.2.2.1,h.2.2.2.1,h.2.2.2.2.1,h.2.2.2.2.2.drew⟩
 · exact fun W h=>⟨Boxed.kept_of hb1 h (by omega),Boxed.kept_of hb2 h (by omega),⟨0,Boxed.kept_of hb3 h (by omega),.inl ⟨rfl,by simp⟩⟩,by simp,by simp,hB.trans (h.mono (by omega))⟩
 · rintro c W B hag ⟨h1,h2,h3,h4⟩
   exact ⟨h1,h2,hag.boxed h3,hag.below (by omega) h4⟩
 · intro l d b o W K hK
   gi_wp2
   first | exact hK | simpa using hK
 · rintro l d b o y pre W hb hn hx ⟨h1,h2,⟨sd,h3,h4⟩,h5,h7,h6⟩ hs ⟨post,hpo⟩
   have hlt:pre.length + 1 ≤ x.size:=by
    have:=congrArg List.length hpo
    rw [length_visP,List.length_append,List.length_cons] at this
    omega
   have hdd2:d ≤ x.deep:=by
    have hm:(d,y) ∈ visP 1 x:=by rw [← hpo];simp
    have:=(vis_deep x 1 _ hm).1
    have:=y.deep_pos
    simp only at *
    omega
   clear hpo
   have c2:=h2.cell
   have f2:=h2.frozen
   obtain ⟨m,hm⟩:∃ m,m = pre.length:=⟨_,rfl⟩
   have HM:=hid hm
   rw [← hm] at c2 h2 h5 hlt
   have e1:=h1.other (show w.heap.size + 1 ≠ w.heap.size + 1 + 1 by omega) (.int .i64 ((m:Int) + 1))
   have e2:=h2.set (.int .i64 ((m:Int) + 1))
   have e3:=h3.other (show w.heap.size + 1 + 1 + 1 ≠ w.heap.size + 1 + 1 by omega) (.int .i64 ((m:Int) + 1))
   have kp1:Kp (fun k=>k < w.heap.size + 1 ∨ k = A.heap.size + 2 ∨ k = A.heap.size + 3) W (W.setCell ⟨w.heap.size + 1 + 1,0,none⟩ (.int .i64 ((m:Int) + 1))):=Kp.set _ (by simp;omega)
   have n1:NodeP (W.setCell ⟨w.heap.size + 1 + 1,0,none⟩ (.int .i64 ((m:Int) + 1))) b o y:=hn.kept kp1 (.inl hb)
   have x1:IsP (W.setCell ⟨w.heap.size + 1 + 1,0,none⟩ (.int .i64 ((m:Int) + 1))) y:=(hx.kept (kp1.mono fun k hk=>.inl hk)).is
   have b1:Below w.heap.size w (W.setCell ⟨w.heap.size + 1 + 1,0,none⟩ (.int .i64 ((m:Int) + 1))):=h6.setCell (p:=⟨w.heap.size + 1 + 1,0,none⟩) (by simp;omega) _
   have k1:KeepsOthers W (W.setCell ⟨w.heap.size + 1 + 1,0,none⟩ (.int .i64 ((m:Int) + 1))):=KeepsOthers.setCell _ _ _
   have g1:=e1.cell
   have g2:=e2.cell
   have i1:=e1.frozen
   by_cases hm64:64 < m + 1
   · have hm':(64:Int) < (m:Int) + 1:=by omega
     clear hm
     gi_wp2
     exact ⟨(k1.trans (KeepsOthers.setCell _ _ _)).from _,rfl,.inl (by omega),e1.set _,b1.setCell (p:=⟨w.heap.size + 1,0,none⟩) (by simp) _⟩
   · have hm':¬ (64:Int) < (m:Int) + 1:=by omega
     by_cases hd8:8 < d
     · clear hm
       gi_wp2
       exact ⟨(k1.trans (KeepsOthers.setCell _ _ _)).from _,rfl,.inr (by omega),e1.set _,b1.setCell (p:=⟨w.heap.size + 1,0,none⟩) (by simp) _⟩
     · have hr:=rightP_any y b o _ n1 x1
       have hl1:(pre ++ [(d,y)]).length = m + 1:=by simp [hm]
       have h8:∀ v ∈ pre ++ [(d,y)],v.1 ≤ 8:=fun v hv=>by
        rcases List.mem_append.1 hv with hv | hv
        · exact h7 v hv
        · rw [List.mem_singleton] at hv;rw [hv];show d ≤ 8;omega
       obtain ⟨r,hrr⟩:∃ r,r = rightN y:=⟨_,rfl⟩
       rw [← hrr] at hr
       have HRR:=hid hrr
       clear hm hrr
       gi_wp2_with (refine ⟨trivial,hdd _,?_⟩;gi_at_call 105;refine (CallsIn.inRound l (callsIn_wide.2 hr)).mono ?_;rintro e w2 ⟨rfl,hB2⟩;have q3:=Boxed.kept_of e3 hB2 (Boxed.lt e3);have gq3:=q3.cell;have fq3:=q3.frozen;cases r)
       · have hno:¬ rightN y = true:=fun h=>by rw [← HRR.out] at h;cases h
         refine ⟨((k1.trans ⟨hB2.size,fun k o ho _=>(hB2.block k (Array.getElem?_eq_some_iff.1 ho).1).trans ho⟩).trans (KeepsOthers.setCell _ _ _)).from _,?_,?_,?_,⟨1,q3.set _,SaidP.no hno⟩,by rw [hl1];omega,h8,?_⟩
         · exact (kp1.trans (fun k o _ _ ho=>(hB2.block k (Array.getElem?_eq_some_iff.1 ho).1).trans ho)).trans (Kp.set _ (by simp;omega))
         · exact (Boxed.kept_of e1 hB2 (Boxed.lt e1)).other (by omega) _
         · rw [hl1];exact (Boxed.kept_of e2 hB2 (Boxed.lt e2)).other (by omega) _
         · exact (b1.trans (hB2.mono b1.size)).setCell (p:=⟨w.heap.size + 1 + 1 + 1,0,none⟩) (by simp;omega) _
       · have hyes:rightN y = true:=HRR.out.symm
         refine ⟨(k1.trans ⟨hB2.size,fun k o ho _=>(hB2.block k (Array.getElem?_eq_some_iff.1 ho).1).trans ho⟩).from _,?_,?_,?_,⟨sd,q3,h4.yes hyes⟩,by rw [hl1];omega,h8,?_⟩
         · exact kp1.trans (fun k o _ _ ho=>(hB2.block k (Array.getElem?_eq_some_iff.1 ho).1).trans ho)
         · exact Boxed.kept_of e1 hB2 (Boxed.lt e1)
         · rw [hl1];exact Boxed.kept_of e2 hB2 (Boxed.lt e2)
         · exact b1.trans (hB2.mono b1.size)
 · rintro D W hD ⟨h1,h2,⟨sd,h3,h4⟩,h5,h7,h6⟩ hK
   rw [length_visP] at h5
   have hdeep:x.deep ≤ 8:=by
    obtain ⟨v,hv,hd⟩:=vis_deepest x 1
    have:=h7 v hv
    omega
   have hsd:sd = chkP x:=by
    unfold chkP
    rw [if_neg (by omega)]
    rcases h4 with ⟨e,h⟩ | ⟨e,h⟩
    · rw [if_pos ((right_vis x 1).2 h)];exact e
    · rw [if_neg (fun t=>h ((right_vis x 1).1 t))];exact e
   rw [hsd] at h3
   have c1:=h1.cell
   have f1:=h1.frozen
   have c3:=h3.cell
   have hK':(W.setCell ⟨w.heap.size + 1,0,none⟩ (.int .i64 (chkP x))).heap[D]? = some (.deferred (some [])):=(KeepsOthers.setCell _ _ _).same D _ hK rfl
   have hc5:=cell_kept (h1.set (.int .i64 (chkP x))).cell (grownBy_putObj' _ D (.deferred none)) (fun r e=>by cases e;exact ⟨_,hK',rfl⟩)
   gi_wp2
   refine ⟨by simp,.inl ⟨_,_,rfl,run_takeDeferred hK',?_⟩⟩
   refine ⟨.int .i64 (chkP x),?_,rfl,(h6.setCell (p:=⟨w.heap.size + 1,0,none⟩) (by simp) _).trans (belowK_b (w:=w) (Nat.le_refl _) _ D _ _ (by omega) hK' rfl rfl)⟩
   simp [results,Tryz.f54,go_sem,hc5]
 · rintro D c W hD ⟨rfl,h0,h1,h2⟩ hK
   have hc5:=cell_kept h1.cell (grownBy_putObj' _ D (.deferred none)) (fun r e=>by cases e;exact ⟨_,hK,rfl⟩)
   have h00:chkP x = 2:=by unfold chkP;rw [if_pos h0]
   gi_wp2
   refine ⟨by simp,.inl ⟨_,_,rfl,run_takeDeferred hK,?_⟩⟩
   refine ⟨.int .i64 2,?_,by rw [h00],h2.trans (belowK_b (w:=w) (Nat.le_refl _) _ D _ _ (by omega) hK rfl rfl)⟩
   simp [results,Tryz.f54,go_sem,hc5]
theorem checkPF_any (x:Pt) (w:World) (hX:IsP w x):Calls Tryz.prog 54 #[x.val] w (RV (.int .i64 (chkP x)) w) :=
 (callsIn_wide (n:=3)).1 (checkPF_in 3 x w hX)
open Go.ChangeShapes Go.WideShapes
section
variable {H:Type} {enc:TypeId × Value→H} {w:World} {base:Nat} {spare:Nat→Bool} {held:Bool}
theorem pat_under:∃ f0 f1 f2 f3 f4 f5:Field,Tryz.prog.underlying 25 = some (.struct #[f0,f1,f2,f3,f4,f5])∧f0.offset = 0∧f1.offset = 1∧f2.offset = 2∧f3.offset = 3∧f4.offset = 4∧f5.offset = 5∧f0.type = 3∧f1.type = 9∧f2.type = 9∧f3.type = 3∧f4.type = 3∧f5.type = 23:=⟨_,_,_,_,_,_,Tryz.underlying25,rfl,rfl,rfl,rfl,rfl,rfl,rfl,rfl,rfl,rfl,rfl,rfl⟩
theorem cells_p:Tryz.prog.cellsOf 25 = 6:=by kernel_rfl
theorem cells_pl:Tryz.prog.cellsOf 23 = 1:=by kernel_rfl
theorem trod_p:∀ (m fuel:Nat) (cs:List Value) (x:DataW H × List MemPlace),DataW.trod enc Tryz.prog w base spare held fuel 25 cs = some x→Rows.uptoBulk x.1 ≤ m →
 ∃ q:Pt,cs = [.int .i64 q.k,.string q.s,.string q.t,.int .i64 q.lo,.int .i64 q.hi,.slice q.a q.n q.cap]∧IsP w q∧q.size ≤ Rows.uptoBulk x.1∧POk q:=by
 intro m
 induction m with
 | zero =>
   intro fuel cs x h hm
   obtain ⟨f0,f1,f2,f3,f4,f5,hu,-⟩:=pat_under
   obtain ⟨xs,n,rfl,rfl,-⟩:=DataW.trod_struct hu h
   simp [Rows.uptoBulk] at hm
 | succ m ih =>
   intro fuel cs x h hm
   obtain ⟨f0,f1,f2,f3,f4,f5,hu,o0,o1,o2,o3,o4,o5,t0,t1,t2,t3,t4,t5⟩:=pat_under
   obtain ⟨xs,n,rfl,rfl,hl,hlen,hf⟩:=DataW.trod_struct hu h
   rw [cells_p] at hl
   match xs,hlen,cs,hl with
   | [y0,y1,y2,y3,y4,y5],_,[c0,c1,c2,c3,c4,c5],_ =>
     have hb:Rows.uptoBulk y5.1 + 1 ≤ Rows.uptoBulk (DataW.agg (H:=H) ([y0,y1,y2,y3,y4,y5].map (·.1))):=by
      simp only [List.map_cons,List.map_nil,Rows.uptoBulk,Rows.uptoBulkAll]
      omega
     dsimp only at hm ⊢
     clear h
     generalize Rows.uptoBulk (DataW.agg (H:=H) ([y0,y1,y2,y3,y4,y5].map (·.1))) = M at hb hm ⊢
     have g0:=hf 0 f0 rfl
     have g1:=hf 1 f1 rfl
     have g2:=hf 2 f2 rfl
     have g3:=hf 3 f3 rfl
     have g4:=hf 4 f4 rfl
     have g5:=hf 5 f5 rfl
     rw [o0,t0,cells_i] at g0
     rw [o1,t1,cells_s] at g1
     rw [o2,t2,cells_s] at g2
     rw [o3,t3,cells_i] at g3
     rw [o4,t4,cells_i] at g4
     rw [o5,t5,cells_pl] at g5
     simp at g0 g1 g2 g3 g4 g5
     obtain ⟨k,e0,rfl,w0⟩:=DataW.trod_int Tryz.underlying3 g0
     obtain ⟨s,e1,rfl,w2⟩:=DataW.trod_string Tryz.underlying9 g1
     obtain ⟨t,e2,rfl,w3⟩:=DataW.trod_string Tryz.underlying9 g2
     obtain ⟨lo,e3,rfl,_⟩:=DataW.trod_int Tryz.underlying3 g3
     obtain ⟨hi,e5,rfl,_⟩:=DataW.trod_int Tryz.underlying3 g4
     simp at e0 e1 e2 e3 e5
     subst e0 e1 e2 e3 e5
     rcases Deep.open_slice Tryz.underlying23 g5 with ⟨e4,_⟩ | ⟨a,len,cap,mm,nn,D,Pl,e4,_,hl4,hcm,hmm,rfl,hx⟩
     · simp at e4
       subst e4
       exact ⟨.mk k s t lo hi none 0 0 (fun _=>.nil),rfl,⟨by omega,by omega,fun i hi=>by omega⟩,by simp only [Pt.size,sumN];omega,w2,w3,fun i hi=>by omega⟩
     · simp at e4
       subst e4
       have hlm:len ≤ mm:=by rw [hmm];split <;> omega
       have hB:sumN (fun i=>Rows.uptoBulk (D i)) len + 1 ≤ Rows.uptoBulk (DataW.slice (H:=H) ((List.range len).map D) ((List.range (mm - len)).map fun j=>D (len + j))):=by
        simp only [Rows.uptoBulk,bulk_range]
        omega
       simp only at hb
       have each:∀ i,i < len→∃ q:Pt,w.cell? (a.add (i * 6)) = some (.int .i64 q.k)∧w.cell? (a.add (i * 6 + 1)) = some (.string q.s)∧w.cell? (a.add (i * 6 + 2)) = some (.string q.t)∧w.cell? (a.add (i * 6 + 3)) = some (.int .i64 q.lo) ∧
        w.cell? (a.add (i * 6 + 4)) = some (.int .i64 q.hi)∧w.cell? (a.add (i * 6 + 5)) = some (.slice q.a q.n q.cap)∧IsP w q∧q.size ≤ Rows.uptoBulk (D i)∧POk q:=by
        intro i hi
        obtain ⟨cs',h1,h2⟩:=hx i (by omega)
        rw [cells_p] at h1
        obtain ⟨_,hlen,hcell⟩:=World.cells?_some h1
        have hle:=sumN_le (f:=fun i=>Rows.uptoBulk (D i)) hi
        obtain ⟨q,rfl,hq,hqs,hqo⟩:=ih _ _ _ h2 (by simp only;omega)
        have d0:=hcell 0 (by omega)
        have d1:=hcell 1 (by omega)
        have d2:=hcell 2 (by omega)
        have d3:=hcell 3 (by omega)
        have d4:=hcell 4 (by omega)
        have d5:=hcell 5 (by omega)
        rw [Deep.add_add] at d0 d1 d2 d3 d4 d5
        exact ⟨q,by simpa using d0,by simpa using d1,by simpa using d2,by simpa using d3,by simpa using d4,by simpa using d5,hq,hqs,hqo⟩
       have:Inhabited Pt:=⟨.nil⟩
       obtain ⟨q,hq⟩:=Deep.choose_lt each
       refine ⟨.mk k s t lo hi (some a) len cap q,rfl,⟨hl4,by unfold maxLen at hcm;omega,fun i hi=>?_⟩,?_,w2,w3,fun i hi=>(hq i hi).2.2.2.2.2.2.2.2⟩
       · obtain ⟨b,off,spot⟩:=a
         obtain ⟨d0,d1,d2,d3,d4,d5,hi1,hi2,-⟩:=hq i hi
         have hspot:spot = none:=by simpa [Addr.add] using World.cell?_spot (hq 0 (by omega)).1
         subst hspot
         rw [add_none] at d0 d1 d2 d3 d4 d5
         refine ⟨b,off,rfl,⟨?_,?_,?_,?_,?_,?_⟩,hi1⟩
         · exact d0
         · rw [Nat.add_assoc];exact d1
         · rw [Nat.add_assoc];exact d2
         · rw [Nat.add_assoc];exact d3
         · rw [Nat.add_assoc];exact d4
         · rw [Nat.add_assoc];exact d5
       · have h1:=sumN_mono (f:=fun i=>(q i).size) (g:=fun i=>Rows.uptoBulk (D i)) (n:=len) fun i hi=>(hq i hi).2.2.2.2.2.2.2.1
         show 1 + sumN (fun i=>(q i).size) len ≤ _
         omega
end
end Go.Proofs.YtkfpgkohkhhlhaaGreatDoor
