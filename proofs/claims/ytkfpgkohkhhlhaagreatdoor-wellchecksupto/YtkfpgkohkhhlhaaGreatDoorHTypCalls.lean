/- Texts that the last one stands on. -/
import Derived.Test.YtkfpgkohkhhlhaaGreatDoorHTypKindR
import Derived.Test.YtkfpgkohkhhlhaaGreatDoorHExprRefRightPD
import Derived.Test.YtkfpgkohkhhlhaaGreatDoorHSchRefCheck
set_option maxRecDepth 100000
set_option maxHeartbeats 4000000
namespace Go.Proofs.YtkfpgkohkhhlhaaGreatDoor
open Go.RowKit
abbrev ptrV (p:Nat):Value:=.pointer (some ⟨p,0,none⟩)
def lookS (n:Nat) (V:Nat→ByteArray) (S:Nat→Sch) (v f:ByteArray):Option Int :=
 match idx V v n with
 | none=>none
 | some i=>match idx (S i).fn f (S i).l with
   | none=>none
   | some k=>some ((S i).fk k)
theorem look_same {nv:Nat} {V T:Nat→ByteArray} {ns:Nat} {Q S:Nat→Sch} (h:∀ j,j < nv→∃ i,idx (fun i=>(Q i).nm) (T j) ns=some i∧SameS (Q i) (S j)):lookS nv V S=lookN nv V T ns Q:=by
 funext v f
 unfold lookS lookN
 cases e:idx V v nv with
 | none=>rfl
 | some j =>
   obtain ⟨i,hi,h1,h2,h3,h4⟩:=h j (idx_some _ _ _ _ e).1
   simp only [hi,h2,h3,h4]
   cases idx (Q i).fn f (Q i).l <;> rfl
theorem field_at (x:Sch) (f:ByteArray) (w:World) (hF:Flds w x.a x.l x.fn x.fk) (hl:x.l≤16):Calls Tryz.prog 212 #[schV x.nm x.v,.string f] w fun e w'=>∃ i:Int,e=.returned (.tuple #[.int .i64 i,.int .i64 (match idx x.fn f x.l with | none=>0 | some k=>x.fk k),.bool (idx x.fn f x.l).isSome])∧Below w.heap.size w w':=by
 cases e:idx x.fn f x.l with
 | none =>
   refine (field_none x.nm x.a x.l x.c x.fn x.fk f w hF (by omega) (idx_none _ _ _ e)).mono ?_
   rintro e w' ⟨rfl,hB⟩
   exact ⟨0,rfl,hB⟩
 | some k =>
   obtain ⟨h1,h2,h3⟩:=idx_some _ _ _ _ e
   refine (field_some x.nm x.a x.l x.c k x.fn x.fk f w hF (by omega) h1 h2 h3).mono ?_
   rintro e w' ⟨rfl,hB⟩
   exact ⟨k,rfl,hB⟩
theorem field_zero (f:ByteArray) (w:World):Calls Tryz.prog 212 #[schZ,.string f] w fun e w'=>∃ i:Int,e=.returned (.tuple #[.int .i64 i,.int .i64 0,.bool false])∧Below w.heap.size w w':=by
 refine (field_none ⟨#[]⟩ none 0 0 (fun _=>⟨#[]⟩) (fun _=>0) f w (fun h=>by omega) (by omega) (fun j hj=>by omega)).mono ?_
 rintro e w' ⟨rfl,hB⟩
 exact ⟨0,rfl,hB⟩
theorem field_walk (p m:Nat) (s f:ByteArray) (v:Value) (N:Addr) (k:Int) (b:Bool) (w:World) (hc:w.cell? ⟨p,0,none⟩=some (.map (some m))) (gN:w.cell? ⟨2,0,none⟩=some (senV N))
 (hl:(Instr.lookup 210 (.map (some m)) (.string s) false).run Tryz.prog w=.ok v w) (C:Calls Tryz.prog 212 #[v,.string f] w fun e w'=>∃ i:Int,e=.returned (.tuple #[.int .i64 i,.int .i64 k,.bool b])∧Below w.heap.size w w') :
 Calls Tryz.prog 204 #[ptrV p,.string s,.string f] w (RV (.tuple #[.int .i64 (if b=true then k else 0),if b=true then .nilIface else senV N]) w):=by
 have HC:=hid C
 clear C
 cases b
 · go_enter Tryz.func204,Tryz.ntmps204
   go_wp2_with (first | (go_at_call 212;refine HC.out.mono ?_;rintro e w2 ⟨i,rfl,hB2⟩;have gN2:=cell_later gN hB2))
   go_quiet (fail)
   go_wp2
   exact bodyPost_ret (v:=.tuple #[.int .i64 0,senV N]) (by simp [results,Tryz.results204,go_sem]) rfl ⟨by simp,bd hB2 _⟩
 · go_enter Tryz.func204,Tryz.ntmps204
   go_wp2_with (first | (go_at_call 212;refine HC.out.mono ?_;rintro e w2 ⟨i,rfl,hB2⟩;have gN2:=cell_later gN hB2))
   exact bodyPost_ret (v:=.tuple #[.int .i64 k,.nilIface]) (by simp [results,Tryz.results204,go_sem]) rfl ⟨by simp,hB2⟩
theorem fieldC_any (p m n:Nat) (V:Nat→ByteArray) (S:Nat→Sch) (N T:Addr) (w:World) (h:NamesIn w p m n V S) (hS:Sens w N T):FieldC (ptrV p) N (lookS n V S) w:=by
 intro s f hs
 have hl:=h.look s hs
 unfold lookS
 unfold atV at hl
 cases e:idx V s n with
 | none =>
   rw [e] at hl
   refine (field_walk p m s f schZ N 0 false w h.box hS.vN hl (field_zero f w)).mono ?_
   rintro e w' ⟨rfl,hB⟩
   exact ⟨rfl,hB⟩
 | some i =>
   rw [e] at hl
   have hi:=(idx_some V s n i e).1
   have C:=field_at (S i) f w (h.flds i hi).1 (h.flds i hi).2
   refine (field_walk p m s f (schV (S i).nm (S i).v) N _ _ w h.box hS.vN hl C).mono ?_
   rintro e w' ⟨rfl,hB⟩
   refine ⟨?_,hB⟩
   show _=Ending.returned (.tuple #[.int .i64 (fldK (match idx (S i).fn f (S i).l with | none=>none | some k=>some ((S i).fk k))),fldE N (match idx (S i).fn f (S i).l with | none=>none | some k=>some ((S i).fk k))])
   cases idx (S i).fn f (S i).l <;> rfl
def KindIs (L:ByteArray→ByteArray→Option Int) (x:X) (K E:Int):Prop :=
 (x.size≤100∧TreeR x∧K=(kindE L x).1∧E=(kindE L x).2) ∨ (¬ (x.size≤100∧TreeR x)∧K=0∧E=1)
theorem KindIs.one {L:ByteArray→ByteArray→Option Int} {x:X} {K E K' E':Int} (h:KindIs L x K E) (h':KindIs L x K' E'):K=K'∧E=E':=by
 rcases h with ⟨a,b,rfl,rfl⟩ | ⟨a,rfl,rfl⟩ <;> rcases h' with ⟨c,d,rfl,rfl⟩ | ⟨c,rfl,rfl⟩
 · exact ⟨rfl,rfl⟩
 · exact absurd ⟨a,b⟩ c
 · exact absurd ⟨c,d⟩ a
 · exact ⟨rfl,rfl⟩
theorem made_any (p m:Nat) (w:World) (hc:w.cell? ⟨p,0,none⟩=some (.map (some m))):Calls Tryz.prog 183 #[ptrV p] w (RV (.bool true) w):=by
 have hq:∀ w,(binOp .neq 210 (.map (some m)) (.map none)).run Tryz.prog w=.ok (.bool true) w:=fun _=>rfl
 go_enter Tryz.func183,Tryz.ntmps183
 go_wp2
 go_ret
 exact ⟨rfl,Below.refl _ _⟩
theorem kindT_calls (p m n:Nat) (V:Nat→ByteArray) (S:Nat→Sch) (N T:Addr) (x:X) (w:World) (h:NamesIn w p m n V S) (hS:Sens w N T) (hX:IsX w x):Calls Tryz.prog 154 #[ptrV p,x.val] w fun e w'=>∃ K E,e=.returned (.tuple #[.int .i64 K,.int .i64 E])∧KindIs (lookS n V S) x K E∧Below w.heap.size w w':=by
 obtain ⟨A,hA,hB,hs,hn⟩:=one_box x w
 have HN:=hid hn
 obtain ⟨a0,a1,a2,a3,a4,a5,a6⟩:=hn.at0
 have HB:=hid hB
 have CM:Hid (Calls Tryz.prog 183 _ A _):=made_any p m A (h.later hB).box
 have CC:Hid (∀ d,Below w.heap.size w d→Calls Tryz.prog 98 _ d _):=fun d hd=>checkX_any x d (hX.later hd)
 have CK:Hid (∀ d,Below w.heap.size w d→x.size≤100→TreeR x→KindC (ptrV p) N T x (kindE (lookS n V S) x).1 (kindE (lookS n V S) x).2 d):=fun d hd h1 h2=>kindT_any (ptrV p) N T (lookS n V S) x d (hX.later hd) h2 (by omega) (hS.later hd) fun d' h'=>fieldC_any p m n V S N T d' (h.later (bt hd h')) (hS.later (bt hd h'))
 have CE:Hid (∀ d,Below w.heap.size w d→∀ e v,ErrIs N T e v→Calls Tryz.prog 185 #[v] d fun r w'=>r=.returned (.int .i64 e)∧Below d.heap.size d w'):=fun d hd e v he=>errno_any N T e v d (hS.later hd) he
 clear hB hn h hS hX
 go_enter Tryz.func154,Tryz.ntmps154
 go_wp2_with (first
  | (go_at_call 183;refine CM.out.mono ?_;rintro e w2 ⟨rfl,hB2⟩;obtain ⟨b0,b1,b2,b3,b4,b5,b6⟩:=(HN.out.later hB2).at0)
  | (go_at_call 184;refine (CK.out _ (bt (bt HB.out hB2) hB3) q1 q2).mono ?_;rintro e w4 ⟨v,rfl,he,hB4⟩;have HE:=hid he;clear he)
  | (go_at_call 185;refine (CE.out _ (bt (bt (bt HB.out hB2) hB3) hB4) _ _ HE.out).mono ?_;rintro e w5 ⟨rfl,hB5⟩)
  | (go_at_call 98;refine (CC.out _ (bt HB.out hB2)).mono ?_;rintro e w3 ⟨r,rfl,hr,hB3⟩;obtain ⟨c0,c1,c2,c3,c4,c5,c6⟩:=(HN.out.later (bt hB2 hB3)).at0;rcases hr with ⟨q1,rfl⟩ | ⟨q1,q2,rfl⟩ | ⟨q1,q2,rfl⟩))
 · exact bodyPost_ret (v:=.tuple #[.int .i64 0,.int .i64 1]) (by simp [results,Tryz.results154,go_sem]) rfl ⟨0,1,rfl,.inr ⟨fun h=>by omega,rfl,rfl⟩,bt (bt HB.out hB2) hB3⟩
 · exact bodyPost_ret (v:=.tuple #[.int .i64 (kindE (lookS n V S) x).1,.int .i64 (kindE (lookS n V S) x).2]) (by simp [results,Tryz.results154,go_sem]) rfl ⟨_,_,rfl,.inl ⟨q1,q2,rfl,rfl⟩,bt (bt (bt (bt HB.out hB2) hB3) hB4) hB5⟩
 · exact bodyPost_ret (v:=.tuple #[.int .i64 0,.int .i64 1]) (by simp [results,Tryz.results154,go_sem]) rfl ⟨0,1,rfl,.inr ⟨fun h=>q2 h.2,rfl,rfl⟩,bt (bt HB.out hB2) hB3⟩
def condZ (K E:Int):Int:=if E=0∧¬ K=1 then 5 else E
theorem cond_calls (nv:Value) (R:Int→Int→Prop) (x:X) (w:World) (CK:∀ d,Below w.heap.size w d→Calls Tryz.prog 154 #[nv,x.val] d fun e w'=>∃ K E,e=.returned (.tuple #[.int .i64 K,.int .i64 E])∧R K E∧Below d.heap.size d w') :
 Calls Tryz.prog 152 #[nv,x.val] w fun e w'=>∃ K E,e=.returned (.int .i64 (condZ K E))∧R K E∧Below w.heap.size w w':=by
 obtain ⟨A,hA,hB,hs,hn⟩:=one_box x w
 obtain ⟨a0,a1,a2,a3,a4,a5,a6⟩:=hn.at0
 have HB:=hid hB
 have C:Hid (Calls Tryz.prog 154 _ A _):=CK A hB
 clear hB hn CK
 go_enter Tryz.func152,Tryz.ntmps152
 go_wp2_with (first | (go_at_call 154;refine C.out.mono ?_;rintro e w2 ⟨K,E,rfl,hr,hB2⟩;have HR:=hid hr;clear hr;by_cases q1:E=0))
 · rename_i h
   go_ret
   exact ⟨K,E,by simp at h;simp [condZ,q1,h],HR.out,bt HB.out hB2⟩
 · rename_i h
   go_ret
   exact ⟨K,E,by simp at h;simp [condZ,q1,h],HR.out,bt HB.out hB2⟩
 · go_ret
   exact ⟨K,E,by simp [condZ,q1],HR.out,bt HB.out hB2⟩
theorem refAll_any (a:Option Addr) (n cap:Nat) (K:Nat→Int) (k0:Int) (w:World) (H:IsI w a n K) (hn:n≤1048576) :
 Calls Tryz.prog 159 #[.slice a n cap,.int .i64 k0] w (RV (.bool (allB K k0 n)) w):=by
 rcases allB_or K k0 n with h | ⟨i,h1,h2,h3⟩
 · rw [allB_yes h]
   have HC:=hid H
   have HL:=hid h
   clear H h
   go_enter Tryz.func159,Tryz.ntmps159
   go_wp2
   go_loopw [5] (fun v wr=>∃ k:Nat,k≤n∧v=.int .i64 k∧Below w.heap.size w wr) (fun v _=>n - (intOf v).toNat)
   case atStart=>exact ⟨0,Nat.zero_le _,rfl,Below.refl _ _⟩
   case round =>
    obtain ⟨k,hk,rfl,hB⟩:=hrel
    by_cases hkn:k < n
    · obtain ⟨b,off,rfl,hc⟩:=(HC.out.later hB) (by omega)
      have f0:=hc k hkn
      rw [HL.out k hkn] at f0
      clear hc
      go_wp2
      go_roundw
      case rel=>exact ⟨k+1,by omega,by go_num,hB⟩
      case measure=>simp [intOf];omega
    · go_wp2
      go_ret
      exact ⟨rfl,hB⟩
 · rw [allB_no h2 h1]
   obtain ⟨b,off,rfl,hc⟩:=H (by omega)
   have HC:=hid hc
   have HE:=hid h2
   have HL:=hid h3
   clear H hc h2 h3
   go_enter Tryz.func159,Tryz.ntmps159
   go_wp2
   go_loopw [5] (fun v wr=>∃ k:Nat,k≤i∧v=.int .i64 k∧Below w.heap.size w wr) (fun v _=>i - (intOf v).toNat)
   case atStart=>exact ⟨0,Nat.zero_le _,rfl,Below.refl _ _⟩
   case round =>
    obtain ⟨k,hk,rfl,hB⟩:=hrel
    have hkn:k < n:=by omega
    have f0:=cell_later (HC.out k hkn) hB
    by_cases hki:k=i
    · subst hki
      have h2':(K k != k0)=true:=by simp [HE.out]
      go_wp2
      try rw [Exit.noGoto_ret]
      go_ret
      exact ⟨rfl,hB⟩
    · rw [HL.out k (by omega)] at f0
      go_wp2
      go_roundw
      case rel=>exact ⟨k+1,by omega,by go_num,hB⟩
      case measure=>simp [intOf];omega
structure RefN (w:World) (p:Nat) (a:Option Addr) (ns cs:Nat) (Q:Nat→Sch) (av:Option Addr) (nv cv:Nat) (V:Nat→ByteArray) (at_:Option Addr) (ct:Nat) (T:Nat→ByteArray):Prop where
 c0:w.cell? ⟨p,0,none⟩=some (.slice a ns cs)
 c1:w.cell? ⟨p,1,none⟩=some (.slice av nv cv)
 c2:w.cell? ⟨p,2,none⟩=some (.slice at_ nv ct)
 sch:Schs w a ns Q
 vars:Txs w av nv V
 types:Txs w at_ nv T
theorem RefN.later {w w':World} {p:Nat} {a:Option Addr} {ns cs:Nat} {Q:Nat→Sch} {av:Option Addr} {nv cv:Nat} {V:Nat→ByteArray} {at_:Option Addr} {ct:Nat} {T:Nat→ByteArray} (h:RefN w p a ns cs Q av nv cv V at_ ct T) (hB:Below w.heap.size w w'):RefN w' p a ns cs Q av nv cv V at_ ct T :=
 ⟨cell_later h.c0 hB,cell_later h.c1 hB,cell_later h.c2 hB,h.sch.later hB,h.vars.later hB,h.types.later hB⟩
theorem refType_some (p:Nat) (a:Option Addr) (ns cs:Nat) (Q:Nat→Sch) (av:Option Addr) (nv cv:Nat) (V:Nat→ByteArray) (at_:Option Addr) (ct:Nat) (T:Nat→ByteArray) (s:ByteArray) (i:Nat) (w:World) (H:RefN w p a ns cs Q av nv cv V at_ ct T) (hn:nv≤1048576) (hi:i < nv) (he:V i=s) (hl:∀ j,j < i→¬ V j=s) :
 Calls Tryz.prog 87 #[.pointer (some ⟨p,0,none⟩),.string s] w (RV (.tuple #[.string (T i),.bool true]) w):=by
 have HN:=hid H
 have HE:=hid he
 have HL:=hid hl
 clear H he hl
 go_enter Tryz.func87,Tryz.ntmps87
 go_wp2
 go_loopw [6] (fun v wr=>∃ k:Nat,k≤i∧v=.int .i64 k∧Below w.heap.size w wr) (fun v _=>i - (intOf v).toNat)
 case atStart=>exact ⟨0,Nat.zero_le _,rfl,Below.refl _ _⟩
 case round =>
  obtain ⟨k,hk,rfl,hB⟩:=hrel
  have hkn:k < nv:=by omega
  have h':=HN.out.later hB
  have c1:=h'.c1
  have c2:=h'.c2
  obtain ⟨bv,ov,rfl,hcv⟩:=h'.vars (by omega)
  obtain ⟨b1,ot,rfl,hct⟩:=h'.types (by omega)
  have f1:=hcv k hkn
  have f2:=hct k hkn
  clear h' hcv hct
  by_cases hki:k=i
  · subst hki
    have s1:=str_yes HE.out
    go_wp2
    try rw [Exit.noGoto_ret]
    exact bodyPost_ret (v:=.tuple #[.string (T k),.bool true]) (by simp [results,Tryz.results87,go_sem]) rfl ⟨rfl,hB⟩
  · have s1:=str_not (HL.out k (by omega))
    go_wp2
    refine ⟨⟨k+1,by omega,by simp,hB⟩,?_⟩
    simp [intOf]
    omega
theorem refType_none (p:Nat) (a:Option Addr) (ns cs:Nat) (Q:Nat→Sch) (av:Option Addr) (nv cv:Nat) (V:Nat→ByteArray) (at_:Option Addr) (ct:Nat) (T:Nat→ByteArray) (s:ByteArray) (w:World) (H:RefN w p a ns cs Q av nv cv V at_ ct T) (hn:nv≤1048576) (hl:∀ j,j < nv→¬ V j=s) :
 Calls Tryz.prog 87 #[.pointer (some ⟨p,0,none⟩),.string s] w (RV (.tuple #[.string ⟨#[]⟩,.bool false]) w):=by
 have HN:=hid H
 have HL:=hid hl
 clear H hl
 go_enter Tryz.func87,Tryz.ntmps87
 go_wp2
 go_loopw [6] (fun v wr=>∃ k:Nat,k≤nv∧v=.int .i64 k∧Below w.heap.size w wr) (fun v _=>nv - (intOf v).toNat)
 case atStart=>exact ⟨0,Nat.zero_le _,rfl,Below.refl _ _⟩
 case round =>
  obtain ⟨k,hk,rfl,hB⟩:=hrel
  have h':=HN.out.later hB
  have c1:=h'.c1
  have c2:=h'.c2
  by_cases hkn:k < nv
  · obtain ⟨bv,ov,rfl,hcv⟩:=h'.vars (by omega)
    have f1:=hcv k hkn
    clear h' hcv
    have s1:=str_not (HL.out k hkn)
    go_wp2
    refine ⟨⟨k+1,by omega,by simp,hB⟩,?_⟩
    simp [intOf]
    omega
  · clear h'
    go_wp2
    exact bodyPost_ret (v:=.tuple #[.string ⟨#[]⟩,.bool false]) (by simp [results,Tryz.results87,go_sem]) rfl ⟨rfl,hB⟩
theorem refType_any (p:Nat) (a:Option Addr) (ns cs:Nat) (Q:Nat→Sch) (av:Option Addr) (nv cv:Nat) (V:Nat→ByteArray) (at_:Option Addr) (ct:Nat) (T:Nat→ByteArray) (s:ByteArray) (w:World) (H:RefN w p a ns cs Q av nv cv V at_ ct T) (hn:nv≤1048576) :
 Calls Tryz.prog 87 #[.pointer (some ⟨p,0,none⟩),.string s] w (RV (.tuple #[.string (match idx V s nv with | some i=>T i | none=>⟨#[]⟩),.bool (idx V s nv).isSome]) w):=by
 cases e:idx V s nv with
 | none=>exact refType_none p a ns cs Q av nv cv V at_ ct T s w H hn (idx_none _ _ _ e)
 | some i =>
   obtain ⟨h1,h2,h3⟩:=idx_some _ _ _ _ e
   exact refType_some p a ns cs Q av nv cv V at_ ct T s i w H hn h1 h2 h3
theorem refField_at (x:Sch) (f:ByteArray) (w:World) (hF:Flds w x.a x.l x.fn x.fk) (hl:x.l≤9223372036854775807):Calls Tryz.prog 86 #[schV x.nm x.v,.string f] w fun e w'=>∃ i:Int,e=.returned (.tuple #[.int .i64 i,.int .i64 (match idx x.fn f x.l with | none=>0 | some k=>x.fk k),.bool (idx x.fn f x.l).isSome])∧Below w.heap.size w w':=by
 cases e:idx x.fn f x.l with
 | none =>
   refine (refField_none x.nm x.a x.l x.c x.fn x.fk f w hF (by omega) (idx_none _ _ _ e)).mono ?_
   rintro e w' ⟨rfl,hB⟩
   exact ⟨0,rfl,hB⟩
 | some k =>
   obtain ⟨h1,h2,h3⟩:=idx_some _ _ _ _ e
   refine (refField_some x.nm x.a x.l x.c k x.fn x.fk f w hF (by omega) h1 h2 h3).mono ?_
   rintro e w' ⟨rfl,hB⟩
   exact ⟨k,rfl,hB⟩
theorem refFld_none (p:Nat) (a:Option Addr) (ns cs:Nat) (Q:Nat→Sch) (av:Option Addr) (nv cv:Nat) (V:Nat→ByteArray) (at_:Option Addr) (ct:Nat) (T:Nat→ByteArray) (s f:ByteArray) (w:World) (H:RefN w p a ns cs Q av nv cv V at_ ct T) (hn:nv≤1048576) (he:idx V s nv=none) :
 Calls Tryz.prog 158 #[.pointer (some ⟨p,0,none⟩),.string s,.string f] w (RV (.tuple #[.int .i64 0,.int .i64 6]) w):=by
 have C:=refType_any p a ns cs Q av nv cv V at_ ct T s w H hn
 rw [he] at C
 have HC:=hid C
 clear C H hn he
 go_enter Tryz.func158,Tryz.ntmps158
 go_wp2_with (first | (go_at_call 87;refine HC.out.mono ?_;rintro e w2 ⟨rfl,hB2⟩))
 exact bodyPost_ret (v:=.tuple #[.int .i64 0,.int .i64 6]) (by simp [results,Tryz.results158,go_sem]) rfl ⟨rfl,hB2⟩
theorem refFld_some (p:Nat) (a:Option Addr) (ns cs:Nat) (Q:Nat→Sch) (av:Option Addr) (nv cv:Nat) (V:Nat→ByteArray) (at_:Option Addr) (ct:Nat) (T:Nat→ByteArray) (s f:ByteArray) (i j:Nat) (w:World) (H:RefN w p a ns cs Q av nv cv V at_ ct T) (hn:nv≤1048576) (hns:ns≤16) (he:idx V s nv=some i) (hj:idx (fun i=>(Q i).nm) (T i) ns=some j) :
 Calls Tryz.prog 158 #[.pointer (some ⟨p,0,none⟩),.string s,.string f] w (RV (.tuple #[.int .i64 (match idx (Q j).fn f (Q j).l with | none=>0 | some k=>(Q j).fk k),.int .i64 (match idx (Q j).fn f (Q j).l with | none=>6 | some _=>0)]) w):=by
 have C:=refType_any p a ns cs Q av nv cv V at_ ct T s w H hn
 rw [he] at C
 have HC:=hid C
 have HN:=hid H
 obtain ⟨j1,j2,j3⟩:=idx_some _ _ _ _ hj
 have CF:Hid (∀ d,Below w.heap.size w d→Calls Tryz.prog 83 #[.slice a ns cs,.string (T i)] d _):=fun d hd=>refFind_some a ns cs j (fun i=>(Q i).nm) (fun i=>(Q i).v) (T i) d (H.sch.later hd).1 (by omega) j1 j2 j3
 have CD:Hid (∀ d,Below w.heap.size w d→Calls Tryz.prog 86 #[schV (Q j).nm (Q j).v,.string f] d _):=fun d hd=>refField_at (Q j) f d ((H.sch.later hd).2 j j1).1 ((H.sch.later hd).2 j j1).2
 clear C H hn he hj j2 j3
 cases hx:idx (Q j).fn f (Q j).l with
 | none =>
   rw [hx] at CD
   clear hx
   go_enter Tryz.func158,Tryz.ntmps158
   go_wp2_with (first
    | (go_at_call 87;refine HC.out.mono ?_;rintro e w2 ⟨rfl,hB2⟩;have c0:=(HN.out.later hB2).c0)
    | (go_at_call 83;refine (CF.out _ hB2).mono ?_;rintro e w3 ⟨rfl,hB3⟩;have hB23:=bt hB2 hB3;have d0:=(HN.out.later hB23).c0;obtain ⟨b0,o0,rfl,hc0⟩:=(HN.out.later hB23).sch.1 (by omega);have d1:=(hc0 j j1).1.1;have d2:=(hc0 j j1).1.2;clear hc0)
    | (go_at_call 86;refine (CD.out _ hB23).mono ?_;rintro e w4 ⟨q,rfl,hB4⟩))
   exact bodyPost_ret (v:=.tuple #[.int .i64 0,.int .i64 6]) (by simp [results,Tryz.results158,go_sem]) rfl ⟨rfl,bt hB23 hB4⟩
 | some k =>
   rw [hx] at CD
   clear hx
   go_enter Tryz.func158,Tryz.ntmps158
   go_wp2_with (first
    | (go_at_call 87;refine HC.out.mono ?_;rintro e w2 ⟨rfl,hB2⟩;have c0:=(HN.out.later hB2).c0)
    | (go_at_call 83;refine (CF.out _ hB2).mono ?_;rintro e w3 ⟨rfl,hB3⟩;have hB23:=bt hB2 hB3;have d0:=(HN.out.later hB23).c0;obtain ⟨b0,o0,rfl,hc0⟩:=(HN.out.later hB23).sch.1 (by omega);have d1:=(hc0 j j1).1.1;have d2:=(hc0 j j1).1.2;clear hc0)
    | (go_at_call 86;refine (CD.out _ hB23).mono ?_;rintro e w4 ⟨q,rfl,hB4⟩))
   exact bodyPost_ret (v:=.tuple #[.int .i64 ((Q j).fk k),.int .i64 0]) (by simp [results,Tryz.results158,go_sem]) rfl ⟨rfl,bt hB23 hB4⟩
def fldQ (q:Option Int):Int:=q.getD 0
def fldR (q:Option Int):Int:=if q.isSome then 0 else 6
def RefFieldC (pv:Value) (L:ByteArray→ByteArray→Option Int) (d:World):Prop :=
 ∀ s f,Calls Tryz.prog 158 #[pv,.string s,.string f] d (RV (.tuple #[.int .i64 (fldQ (L s f)),.int .i64 (fldR (L s f))]) d)
theorem refFieldC_any (p:Nat) (a:Option Addr) (ns cs:Nat) (Q:Nat→Sch) (av:Option Addr) (nv cv:Nat) (V:Nat→ByteArray) (at_:Option Addr) (ct:Nat) (T:Nat→ByteArray) (w:World) (H:RefN w p a ns cs Q av nv cv V at_ ct T) (hn:nv≤1048576) (hns:ns≤16) (hl:∀ j,j < nv→∃ i,idx (fun i=>(Q i).nm) (T j) ns=some i):RefFieldC (.pointer (some ⟨p,0,none⟩)) (lookN nv V T ns Q) w:=by
 intro s f
 unfold lookN
 cases e:idx V s nv with
 | none=>exact refFld_none p a ns cs Q av nv cv V at_ ct T s f w H hn e
 | some i =>
   obtain ⟨j,hj⟩:=hl i (idx_some _ _ _ _ e).1
   have:=refFld_some p a ns cs Q av nv cv V at_ ct T s f i j w H hn hns e hj
   simp only [hj]
   cases hx:idx (Q j).fn f (Q j).l with
   | none=>rw [hx] at this;exact this
   | some k=>rw [hx] at this;exact this
def RefKindC (pv:Value) (x:X) (K E:Int) (d:World):Prop :=
 Calls Tryz.prog 132 #[pv,x.val] d fun e w'=>e=.returned (.tuple #[.int .i64 K,.int .i64 E])∧Below d.heap.size d w'
theorem refKind_err (pv:Value) (x:X) (K E:Nat→Int) (i:Nat) (w:World) (hX:IsX w x) (hn:x.n≤1048576) (HK:∀ i,i < x.n→∀ d,Below w.heap.size w d→RefKindC pv (x.c i) (K i) (E i) d) (hi:i < x.n) (he:¬ E i=0) (h0:∀ j,j < i→E j=0):RefKindC pv x 0 (E i) w:=by
 obtain ⟨A,hA,hB,hs,hn0⟩:=one_box x w
 have HN:=hid hn0
 obtain ⟨a0,a1,a2,a3,a4,a5,a6⟩:=hn0.at0
 have HB:=hid hB
 have HX:Hid (IsX A x):=hX.later hB
 have HC:Hid (∀ i,i < x.n→∀ d,Below A.heap.size A d→RefKindC pv (x.c i) (K i) (E i) d):=fun i hi d hd=>HK i hi d (bt hB hd)
 have H0:=hid h0
 have HE:=hid he
 clear hB hn0 hX HK h0 he
 unfold RefKindC
 go_enter Tryz.func132,Tryz.ntmps132
 go_wp2
 go_loopw [6,7] (fun u iv wr=>∃ k:Nat,k≤i∧iv=.int .i64 k∧Hid (wr.ownsRow A.heap.size 3 1 u k (rowI K k))∧Below A.heap.size A wr) (fun _ iv _=>i - (intOf iv).toNat)
 case atStart=>exact ⟨0,Nat.zero_le _,rfl,World.ownsRow_nil _ _ _ _,Below.refl _ _⟩
 case round =>
  obtain ⟨k,hk,rfl,HO,hB⟩:=hrel
  obtain ⟨b0,b1,b2,b3',b4,b5,b6⟩:=(HN.out.later hB).at0
  have hkn:k < x.n:=by omega
  obtain ⟨b,o,ha,hNN,hx⟩:=(HX.out.later hB).part hkn
  obtain ⟨d0,d1,d2,d3,d4,d5,d6⟩:=hNN
  have C:Hid (∀ d,Below A.heap.size A d→RefKindC pv (x.c k) (K k) (E k) d):=HC.out k hkn
  rw [ha] at b6
  obtain ⟨y,hy⟩:∃ y,y=x.c k:=⟨_,rfl⟩
  rw [← hy] at d0 d1 d2 d3 d4 d5 d6 C
  have hnz:k≤2097152:=by omega
  clear ha hx hy
  by_cases hki:k=i
  · subst hki
    have he':(E k != 0)=true:=by simp [HE.out]
    go_wp2_with (first | (go_at_call 132;refine (C.out _ hB).mono ?_;rintro e w2 ⟨rfl,hB2⟩))
    try rw [Exit.noGoto_ret]
    exact bodyPost_ret (v:=.tuple #[.int .i64 0,.int .i64 (E k)]) (by simp [results,Tryz.results132,go_sem]) rfl ⟨rfl,bt HB.out (bt hB hB2)⟩
  · have E0:Hid (E k=0):=H0.out k (by omega)
    have HX1:Hid (k+1≤i):=by show k+1≤i;omega
    rw [E0.out] at C
    go_wp2_with (first
     | (at_builtin;obtain ⟨v3,w3,r3,o3,b3⟩:=push_int HO2.out hB3.size hnz (K k);refine wpList_append_run rfl (.tmp 32) (.tmp 34) 39 rfl _ _ _ rfl rfl r3 ?_)
     | (go_at_call 132;refine (C.out _ hB).mono ?_;rintro e w2 ⟨rfl,hB2⟩;have HO2:Hid (w2.ownsRow A.heap.size 3 1 _ k (rowI K k)):=own_still HO.out hB2;have hB3:Below A.heap.size A w2:=bt hB hB2))
    refine ⟨⟨k+1,HX1.out,by simp,o3,hB3.trans b3⟩,?_⟩
    have:=HX1.out
    simp [intOf]
    omega
theorem refKind_const (pv:Value) (x:X) (K E:Nat→Int) (w:World) (hX:IsX w x) (h1:x.k=1) (hn:x.n≤1048576) (HK:∀ i,i < x.n→∀ d,Below w.heap.size w d→RefKindC pv (x.c i) (K i) (E i) d) (h0:∀ j,j < x.n→E j=0):RefKindC pv x x.v.k 0 w:=by
 obtain ⟨A,hA,hB,hs,hn0⟩:=one_box x w
 have HN:=hid hn0
 obtain ⟨a0,a1,a2,a3,a4,a5,a6⟩:=hn0.at0
 have HB:=hid hB
 have h1':(x.k == 1)=true:=by simp [h1]
 have HX:Hid (IsX A x):=hX.later hB
 have HC:Hid (∀ i,i < x.n→∀ d,Below A.heap.size A d→RefKindC pv (x.c i) (K i) (E i) d):=fun i hi d hd=>HK i hi d (bt hB hd)
 have H0:=hid h0
 clear hB hn0 hX HK h0 h1
 unfold RefKindC
 go_enter Tryz.func132,Tryz.ntmps132
 go_wp2
 go_loopw [6,7] (fun u iv wr=>∃ k:Nat,k≤x.n∧iv=.int .i64 k∧Hid (wr.ownsRow A.heap.size 3 1 u k (rowI K k))∧Below A.heap.size A wr) (fun _ iv _=>x.n - (intOf iv).toNat)
 case atStart=>exact ⟨0,Nat.zero_le _,rfl,World.ownsRow_nil _ _ _ _,Below.refl _ _⟩
 case round =>
  obtain ⟨k,hk,rfl,HO,hB⟩:=hrel
  obtain ⟨b0,b1,b2,b3',b4,b5,b6⟩:=(HN.out.later hB).at0
  by_cases hkn:k < x.n
  · obtain ⟨b,o,ha,hNN,hx⟩:=(HX.out.later hB).part hkn
    obtain ⟨d0,d1,d2,d3,d4,d5,d6⟩:=hNN
    have C:Hid (∀ d,Below A.heap.size A d→RefKindC pv (x.c k) (K k) (E k) d):=HC.out k hkn
    rw [ha] at b6
    obtain ⟨y,hy⟩:∃ y,y=x.c k:=⟨_,rfl⟩
    rw [← hy] at d0 d1 d2 d3 d4 d5 d6 C
    have hnz:k≤2097152:=by omega
    clear ha hx hy
    have E0:Hid (E k=0):=H0.out k hkn
    have HX1:Hid (k+1≤x.n):=by show k+1≤x.n;omega
    rw [E0.out] at C
    go_wp2_with (first
     | (at_builtin;obtain ⟨v3,w3,r3,o3,b3⟩:=push_int HO2.out hB3.size hnz (K k);refine wpList_append_run rfl (.tmp 32) (.tmp 34) 39 rfl _ _ _ rfl rfl r3 ?_)
     | (go_at_call 132;refine (C.out _ hB).mono ?_;rintro e w2 ⟨rfl,hB2⟩;have HO2:Hid (w2.ownsRow A.heap.size 3 1 _ k (rowI K k)):=own_still HO.out hB2;have hB3:Below A.heap.size A w2:=bt hB hB2))
    refine ⟨⟨k+1,HX1.out,by simp,o3,hB3.trans b3⟩,?_⟩
    have:=HX1.out
    simp [intOf]
    omega
  · obtain rfl:k=x.n:=by omega
    obtain ⟨a9,cap9,rfl,hI,hle⟩:=own_isI HO.out
    have HI:=hid hI
    clear hI HO
    go_wp2
    exact bodyPost_ret (v:=.tuple #[.int .i64 x.v.k,.int .i64 0]) (by simp [results,Tryz.results132,go_sem]) rfl ⟨by first | rfl | simp,bt HB.out hB⟩
theorem refKind_field (pv:Value) (x:X) (K E:Nat→Int) (w:World) (hX:IsX w x) (L:ByteArray→ByteArray→Option Int) (h1:x.k=2) (HF:∀ d,Below w.heap.size w d→RefFieldC pv L d) (hn:x.n≤1048576) (HK:∀ i,i < x.n→∀ d,Below w.heap.size w d→RefKindC pv (x.c i) (K i) (E i) d) (h0:∀ j,j < x.n→E j=0):RefKindC pv x (fldQ (L x.s x.f)) (fldR (L x.s x.f)) w:=by
 obtain ⟨A,hA,hB,hs,hn0⟩:=one_box x w
 have HN:=hid hn0
 obtain ⟨a0,a1,a2,a3,a4,a5,a6⟩:=hn0.at0
 have HB:=hid hB
 have h1':(x.k == 1)=false:=by simp [h1]
 have h2':(x.k == 2)=true:=by simp [h1]
 have HX:Hid (IsX A x):=hX.later hB
 have HC:Hid (∀ i,i < x.n→∀ d,Below A.heap.size A d→RefKindC pv (x.c i) (K i) (E i) d):=fun i hi d hd=>HK i hi d (bt hB hd)
 have H0:=hid h0
 have CF:Hid (∀ d,Below A.heap.size A d→Calls Tryz.prog 158 #[pv,.string x.s,.string x.f] d _):=fun d hd=>HF d (bt hB hd) x.s x.f
 clear hB hn0 hX HK h0 h1 HF
 unfold RefKindC
 generalize fldQ (L x.s x.f)=q1 at CF ⊢
 generalize fldR (L x.s x.f)=q2 at CF ⊢
 go_enter Tryz.func132,Tryz.ntmps132
 go_wp2
 go_loopw [6,7] (fun u iv wr=>∃ k:Nat,k≤x.n∧iv=.int .i64 k∧Hid (wr.ownsRow A.heap.size 3 1 u k (rowI K k))∧Below A.heap.size A wr) (fun _ iv _=>x.n - (intOf iv).toNat)
 case atStart=>exact ⟨0,Nat.zero_le _,rfl,World.ownsRow_nil _ _ _ _,Below.refl _ _⟩
 case round =>
  obtain ⟨k,hk,rfl,HO,hB⟩:=hrel
  obtain ⟨b0,b1,b2,b3',b4,b5,b6⟩:=(HN.out.later hB).at0
  by_cases hkn:k < x.n
  · obtain ⟨b,o,ha,hNN,hx⟩:=(HX.out.later hB).part hkn
    obtain ⟨d0,d1,d2,d3,d4,d5,d6⟩:=hNN
    have C:Hid (∀ d,Below A.heap.size A d→RefKindC pv (x.c k) (K k) (E k) d):=HC.out k hkn
    rw [ha] at b6
    obtain ⟨y,hy⟩:∃ y,y=x.c k:=⟨_,rfl⟩
    rw [← hy] at d0 d1 d2 d3 d4 d5 d6 C
    have hnz:k≤2097152:=by omega
    clear ha hx hy
    have E0:Hid (E k=0):=H0.out k hkn
    have HX1:Hid (k+1≤x.n):=by show k+1≤x.n;omega
    rw [E0.out] at C
    go_wp2_with (first
     | (at_builtin;obtain ⟨v3,w3,r3,o3,b3⟩:=push_int HO2.out hB3.size hnz (K k);refine wpList_append_run rfl (.tmp 32) (.tmp 34) 39 rfl _ _ _ rfl rfl r3 ?_)
     | (go_at_call 132;refine (C.out _ hB).mono ?_;rintro e w2 ⟨rfl,hB2⟩;have HO2:Hid (w2.ownsRow A.heap.size 3 1 _ k (rowI K k)):=own_still HO.out hB2;have hB3:Below A.heap.size A w2:=bt hB hB2))
    refine ⟨⟨k+1,HX1.out,by simp,o3,hB3.trans b3⟩,?_⟩
    have:=HX1.out
    simp [intOf]
    omega
  · obtain rfl:k=x.n:=by omega
    obtain ⟨a9,cap9,rfl,hI,hle⟩:=own_isI HO.out
    have HI:=hid hI
    clear hI HO
    go_wp2_with (first | (go_at_call 158;refine (CF.out _ hB).mono ?_;rintro e w5 ⟨rfl,hB5⟩))
    exact bodyPost_ret (v:=.tuple #[.int .i64 q1,.int .i64 q2]) (by simp [results,Tryz.results132,go_sem]) rfl ⟨by first | rfl | simp,bt HB.out (bt hB hB5)⟩
theorem refKind_A (pv:Value) (x:X) (K E:Nat→Int) (w:World) (hX:IsX w x) (h3:3≤x.k) (h8:x.k≤8) (hn:x.n≤1048576) (HK:∀ i,i < x.n→∀ d,Below w.heap.size w d→RefKindC pv (x.c i) (K i) (E i) d) (h0:∀ j,j < x.n→E j=0):RefKindC pv x (if allB K 2 x.n=true then 2 else 0) (if allB K 2 x.n=true then 0 else 5) w:=by
 obtain ⟨A,hA,hB,hs,hn0⟩:=one_box x w
 have HN:=hid hn0
 obtain ⟨a0,a1,a2,a3,a4,a5,a6⟩:=hn0.at0
 have HB:=hid hB
 have h1':(x.k == 1)=false:=by simp;omega
 have h2':(x.k == 2)=false:=by simp;omega
 have HX:Hid (IsX A x):=hX.later hB
 have HC:Hid (∀ i,i < x.n→∀ d,Below A.heap.size A d→RefKindC pv (x.c i) (K i) (E i) d):=fun i hi d hd=>HK i hi d (bt hB hd)
 have H0:=hid h0
 have M2:Hid (∀ (a:Option Addr) (cap:Nat) (d:World),IsI d a x.n K→Calls Tryz.prog 159 #[.slice a x.n cap,.int .i64 2] d _):=fun a cap d h=>refAll_any a x.n cap K 2 d h hn
 clear hB hn0 hX HK h0
 unfold RefKindC
 generalize allB K 2 x.n=q at M2 ⊢
 go_enter Tryz.func132,Tryz.ntmps132
 go_wp2
 go_loopw [6,7] (fun u iv wr=>∃ k:Nat,k≤x.n∧iv=.int .i64 k∧Hid (wr.ownsRow A.heap.size 3 1 u k (rowI K k))∧Below A.heap.size A wr) (fun _ iv _=>x.n - (intOf iv).toNat)
 case atStart=>exact ⟨0,Nat.zero_le _,rfl,World.ownsRow_nil _ _ _ _,Below.refl _ _⟩
 case round =>
  obtain ⟨k,hk,rfl,HO,hB⟩:=hrel
  obtain ⟨b0,b1,b2,b3',b4,b5,b6⟩:=(HN.out.later hB).at0
  by_cases hkn:k < x.n
  · obtain ⟨b,o,ha,hNN,hx⟩:=(HX.out.later hB).part hkn
    obtain ⟨d0,d1,d2,d3,d4,d5,d6⟩:=hNN
    have C:Hid (∀ d,Below A.heap.size A d→RefKindC pv (x.c k) (K k) (E k) d):=HC.out k hkn
    rw [ha] at b6
    obtain ⟨y,hy⟩:∃ y,y=x.c k:=⟨_,rfl⟩
    rw [← hy] at d0 d1 d2 d3 d4 d5 d6 C
    have hnz:k≤2097152:=by omega
    clear ha hx hy
    have E0:Hid (E k=0):=H0.out k hkn
    have HX1:Hid (k+1≤x.n):=by show k+1≤x.n;omega
    rw [E0.out] at C
    go_wp2_with (first
     | (at_builtin;obtain ⟨v3,w3,r3,o3,b3⟩:=push_int HO2.out hB3.size hnz (K k);refine wpList_append_run rfl (.tmp 32) (.tmp 34) 39 rfl _ _ _ rfl rfl r3 ?_)
     | (go_at_call 132;refine (C.out _ hB).mono ?_;rintro e w2 ⟨rfl,hB2⟩;have HO2:Hid (w2.ownsRow A.heap.size 3 1 _ k (rowI K k)):=own_still HO.out hB2;have hB3:Below A.heap.size A w2:=bt hB hB2))
    refine ⟨⟨k+1,HX1.out,by simp,o3,hB3.trans b3⟩,?_⟩
    have:=HX1.out
    simp [intOf]
    omega
  · obtain rfl:k=x.n:=by omega
    obtain ⟨a9,cap9,rfl,hI,hle⟩:=own_isI HO.out
    have HI:=hid hI
    clear hI HO
    cases q
    · go_wp2_with (first | (go_at_call 159;refine (M2.out _ _ _ HI.out).mono ?_;rintro e w5 ⟨rfl,hB5⟩))
      exact bodyPost_ret (v:=.tuple #[.int .i64 0,.int .i64 5]) (by simp [results,Tryz.results132,go_sem]) rfl ⟨by first | rfl | simp,bt HB.out (bt hB hB5)⟩
    · go_wp2_with (first | (go_at_call 159;refine (M2.out _ _ _ HI.out).mono ?_;rintro e w5 ⟨rfl,hB5⟩))
      exact bodyPost_ret (v:=.tuple #[.int .i64 2,.int .i64 0]) (by simp [results,Tryz.results132,go_sem]) rfl ⟨by first | rfl | simp,bt HB.out (bt hB hB5)⟩
theorem refKind_D (pv:Value) (x:X) (K E:Nat→Int) (w:World) (hX:IsX w x) (h15:15≤x.k) (hn:x.n≤1048576) (HK:∀ i,i < x.n→∀ d,Below w.heap.size w d→RefKindC pv (x.c i) (K i) (E i) d) (h0:∀ j,j < x.n→E j=0):RefKindC pv x (if allB K 1 x.n=true then 1 else 0) (if allB K 1 x.n=true then 0 else 5) w:=by
 obtain ⟨A,hA,hB,hs,hn0⟩:=one_box x w
 have HN:=hid hn0
 obtain ⟨a0,a1,a2,a3,a4,a5,a6⟩:=hn0.at0
 have HB:=hid hB
 have h1':(x.k == 1)=false:=by simp;omega
 have h2':(x.k == 2)=false:=by simp;omega
 have h3':(3:Int)≤x.k:=by omega
 have h8':¬ x.k≤8:=by omega
 have h9':(x.k == 9)=false:=by simp;omega
 have h10':(x.k == 10)=false:=by simp;omega
 have h11':(11:Int)≤x.k:=by omega
 have h14':¬ x.k≤14:=by omega
 have HX:Hid (IsX A x):=hX.later hB
 have HC:Hid (∀ i,i < x.n→∀ d,Below A.heap.size A d→RefKindC pv (x.c i) (K i) (E i) d):=fun i hi d hd=>HK i hi d (bt hB hd)
 have H0:=hid h0
 have M1:Hid (∀ (a:Option Addr) (cap:Nat) (d:World),IsI d a x.n K→Calls Tryz.prog 159 #[.slice a x.n cap,.int .i64 1] d _):=fun a cap d h=>refAll_any a x.n cap K 1 d h hn
 clear hB hn0 hX HK h0
 unfold RefKindC
 generalize allB K 1 x.n=q at M1 ⊢
 go_enter Tryz.func132,Tryz.ntmps132
 go_wp2
 go_loopw [6,7] (fun u iv wr=>∃ k:Nat,k≤x.n∧iv=.int .i64 k∧Hid (wr.ownsRow A.heap.size 3 1 u k (rowI K k))∧Below A.heap.size A wr) (fun _ iv _=>x.n - (intOf iv).toNat)
 case atStart=>exact ⟨0,Nat.zero_le _,rfl,World.ownsRow_nil _ _ _ _,Below.refl _ _⟩
 case round =>
  obtain ⟨k,hk,rfl,HO,hB⟩:=hrel
  obtain ⟨b0,b1,b2,b3',b4,b5,b6⟩:=(HN.out.later hB).at0
  by_cases hkn:k < x.n
  · obtain ⟨b,o,ha,hNN,hx⟩:=(HX.out.later hB).part hkn
    obtain ⟨d0,d1,d2,d3,d4,d5,d6⟩:=hNN
    have C:Hid (∀ d,Below A.heap.size A d→RefKindC pv (x.c k) (K k) (E k) d):=HC.out k hkn
    rw [ha] at b6
    obtain ⟨y,hy⟩:∃ y,y=x.c k:=⟨_,rfl⟩
    rw [← hy] at d0 d1 d2 d3 d4 d5 d6 C
    have hnz:k≤2097152:=by omega
    clear ha hx hy
    have E0:Hid (E k=0):=H0.out k hkn
    have HX1:Hid (k+1≤x.n):=by show k+1≤x.n;omega
    rw [E0.out] at C
    go_wp2_with (first
     | (at_builtin;obtain ⟨v3,w3,r3,o3,b3⟩:=push_int HO2.out hB3.size hnz (K k);refine wpList_append_run rfl (.tmp 32) (.tmp 34) 39 rfl _ _ _ rfl rfl r3 ?_)
     | (go_at_call 132;refine (C.out _ hB).mono ?_;rintro e w2 ⟨rfl,hB2⟩;have HO2:Hid (w2.ownsRow A.heap.size 3 1 _ k (rowI K k)):=own_still HO.out hB2;have hB3:Below A.heap.size A w2:=bt hB hB2))
    refine ⟨⟨k+1,HX1.out,by simp,o3,hB3.trans b3⟩,?_⟩
    have:=HX1.out
    simp [intOf]
    omega
  · obtain rfl:k=x.n:=by omega
    obtain ⟨a9,cap9,rfl,hI,hle⟩:=own_isI HO.out
    have HI:=hid hI
    clear hI HO
    cases q
    · go_wp2_with (first | (go_at_call 159;refine (M1.out _ _ _ HI.out).mono ?_;rintro e w5 ⟨rfl,hB5⟩))
      exact bodyPost_ret (v:=.tuple #[.int .i64 0,.int .i64 5]) (by simp [results,Tryz.results132,go_sem]) rfl ⟨by first | rfl | simp,bt HB.out (bt hB hB5)⟩
    · go_wp2_with (first | (go_at_call 159;refine (M1.out _ _ _ HI.out).mono ?_;rintro e w5 ⟨rfl,hB5⟩))
      exact bodyPost_ret (v:=.tuple #[.int .i64 1,.int .i64 0]) (by simp [results,Tryz.results132,go_sem]) rfl ⟨by first | rfl | simp,bt HB.out (bt hB hB5)⟩
theorem refKind_C (pv:Value) (x:X) (K E:Nat→Int) (w:World) (hX:IsX w x) (h11:11≤x.k) (h14:x.k≤14) (hn:x.n≤1048576) (HK:∀ i,i < x.n→∀ d,Below w.heap.size w d→RefKindC pv (x.c i) (K i) (E i) d) (h0:∀ j,j < x.n→E j=0):RefKindC pv x (if (allB K 2 x.n || allB K 3 x.n)=true then 1 else 0) (if (allB K 2 x.n || allB K 3 x.n)=true then 0 else 5) w:=by
 obtain ⟨A,hA,hB,hs,hn0⟩:=one_box x w
 have HN:=hid hn0
 obtain ⟨a0,a1,a2,a3,a4,a5,a6⟩:=hn0.at0
 have HB:=hid hB
 have h1':(x.k == 1)=false:=by simp;omega
 have h2':(x.k == 2)=false:=by simp;omega
 have h3':(3:Int)≤x.k:=by omega
 have h8':¬ x.k≤8:=by omega
 have h9':(x.k == 9)=false:=by simp;omega
 have h10':(x.k == 10)=false:=by simp;omega
 have HX:Hid (IsX A x):=hX.later hB
 have HC:Hid (∀ i,i < x.n→∀ d,Below A.heap.size A d→RefKindC pv (x.c i) (K i) (E i) d):=fun i hi d hd=>HK i hi d (bt hB hd)
 have H0:=hid h0
 have M2:Hid (∀ (a:Option Addr) (cap:Nat) (d:World),IsI d a x.n K→Calls Tryz.prog 159 #[.slice a x.n cap,.int .i64 2] d _):=fun a cap d h=>refAll_any a x.n cap K 2 d h hn
 have M3:Hid (∀ (a:Option Addr) (cap:Nat) (d:World),IsI d a x.n K→Calls Tryz.prog 159 #[.slice a x.n cap,.int .i64 3] d _):=fun a cap d h=>refAll_any a x.n cap K 3 d h hn
 clear hB hn0 hX HK h0
 unfold RefKindC
 generalize allB K 2 x.n=q at M2 ⊢
 generalize allB K 3 x.n=s at M3 ⊢
 go_enter Tryz.func132,Tryz.ntmps132
 go_wp2
 go_loopw [6,7] (fun u iv wr=>∃ k:Nat,k≤x.n∧iv=.int .i64 k∧Hid (wr.ownsRow A.heap.size 3 1 u k (rowI K k))∧Below A.heap.size A wr) (fun _ iv _=>x.n - (intOf iv).toNat)
 case atStart=>exact ⟨0,Nat.zero_le _,rfl,World.ownsRow_nil _ _ _ _,Below.refl _ _⟩
 case round =>
  obtain ⟨k,hk,rfl,HO,hB⟩:=hrel
  obtain ⟨b0,b1,b2,b3',b4,b5,b6⟩:=(HN.out.later hB).at0
  by_cases hkn:k < x.n
  · obtain ⟨b,o,ha,hNN,hx⟩:=(HX.out.later hB).part hkn
    obtain ⟨d0,d1,d2,d3,d4,d5,d6⟩:=hNN
    have C:Hid (∀ d,Below A.heap.size A d→RefKindC pv (x.c k) (K k) (E k) d):=HC.out k hkn
    rw [ha] at b6
    obtain ⟨y,hy⟩:∃ y,y=x.c k:=⟨_,rfl⟩
    rw [← hy] at d0 d1 d2 d3 d4 d5 d6 C
    have hnz:k≤2097152:=by omega
    clear ha hx hy
    have E0:Hid (E k=0):=H0.out k hkn
    have HX1:Hid (k+1≤x.n):=by show k+1≤x.n;omega
    rw [E0.out] at C
    go_wp2_with (first
     | (at_builtin;obtain ⟨v3,w3,r3,o3,b3⟩:=push_int HO2.out hB3.size hnz (K k);refine wpList_append_run rfl (.tmp 32) (.tmp 34) 39 rfl _ _ _ rfl rfl r3 ?_)
     | (go_at_call 132;refine (C.out _ hB).mono ?_;rintro e w2 ⟨rfl,hB2⟩;have HO2:Hid (w2.ownsRow A.heap.size 3 1 _ k (rowI K k)):=own_still HO.out hB2;have hB3:Below A.heap.size A w2:=bt hB hB2))
    refine ⟨⟨k+1,HX1.out,by simp,o3,hB3.trans b3⟩,?_⟩
    have:=HX1.out
    simp [intOf]
    omega
  · obtain rfl:k=x.n:=by omega
    obtain ⟨a9,cap9,rfl,hI,hle⟩:=own_isI HO.out
    have HI:=hid hI
    clear hI HO
    cases q
    · cases s
      · go_wp2_with (first | (go_at_call 159;refine (M3.out _ _ _ (HI.out.later hB5)).mono ?_;rintro e w6 ⟨rfl,hB6⟩) | (go_at_call 159;refine (M2.out _ _ _ HI.out).mono ?_;rintro e w5 ⟨rfl,hB5⟩))
        exact bodyPost_ret (v:=.tuple #[.int .i64 0,.int .i64 5]) (by simp [results,Tryz.results132,go_sem]) rfl ⟨by first | rfl | simp,bt HB.out (bt hB (bt hB5 hB6))⟩
      · go_wp2_with (first | (go_at_call 159;refine (M3.out _ _ _ (HI.out.later hB5)).mono ?_;rintro e w6 ⟨rfl,hB6⟩) | (go_at_call 159;refine (M2.out _ _ _ HI.out).mono ?_;rintro e w5 ⟨rfl,hB5⟩))
        exact bodyPost_ret (v:=.tuple #[.int .i64 1,.int .i64 0]) (by simp [results,Tryz.results132,go_sem]) rfl ⟨by first | rfl | simp,bt HB.out (bt hB (bt hB5 hB6))⟩
    · go_wp2_with (first | (go_at_call 159;refine (M2.out _ _ _ HI.out).mono ?_;rintro e w5 ⟨rfl,hB5⟩))
      exact bodyPost_ret (v:=.tuple #[.int .i64 1,.int .i64 0]) (by simp [results,Tryz.results132,go_sem]) rfl ⟨by first | rfl | simp,bt HB.out (bt hB hB5)⟩
theorem refKind_B9 (pv:Value) (x:X) (K E:Nat→Int) (w:World) (hX:IsX w x) (hk:x.k=9) (h2n:x.n=2) (hn:x.n≤1048576) (HK:∀ i,i < x.n→∀ d,Below w.heap.size w d→RefKindC pv (x.c i) (K i) (E i) d) (h0:∀ j,j < x.n→E j=0):RefKindC pv x (if (decide (K 0=K 1) || (decide (K 0=0) || decide (K 1=0)))=true then 1 else 0) (if (decide (K 0=K 1) || (decide (K 0=0) || decide (K 1=0)))=true then 0 else 5) w:=by
 obtain ⟨A,hA,hB,hs,hn0⟩:=one_box x w
 have HN:=hid hn0
 obtain ⟨a0,a1,a2,a3,a4,a5,a6⟩:=hn0.at0
 have HB:=hid hB
 have h1':(x.k == 1)=false:=by simp;omega
 have h2':(x.k == 2)=false:=by simp;omega
 have h3':(3:Int)≤x.k:=by omega
 have h8':¬ x.k≤8:=by omega
 have h9':(x.k == 9)=true:=by simp [hk]
 have HX:Hid (IsX A x):=hX.later hB
 have HC:Hid (∀ i,i < x.n→∀ d,Below A.heap.size A d→RefKindC pv (x.c i) (K i) (E i) d):=fun i hi d hd=>HK i hi d (bt hB hd)
 have H0:=hid h0
 clear hB hn0 hX HK h0 hk
 unfold RefKindC
 obtain ⟨r1,hr1⟩:∃ r:Int,r=(if (decide (K 0=K 1) || (decide (K 0=0) || decide (K 1=0)))=true then 1 else 0):=⟨_,rfl⟩
 obtain ⟨r2,hr2⟩:∃ r:Int,r=(if (decide (K 0=K 1) || (decide (K 0=0) || decide (K 1=0)))=true then 0 else 5):=⟨_,rfl⟩
 rw [← hr1,← hr2]
 have HR1:=hid hr1
 have HR2:=hid hr2
 have HN2:=hid h2n
 clear hr1 hr2 h2n
 go_enter Tryz.func132,Tryz.ntmps132
 go_wp2
 go_loopw [6,7] (fun u iv wr=>∃ k:Nat,k≤x.n∧iv=.int .i64 k∧Hid (wr.ownsRow A.heap.size 3 1 u k (rowI K k))∧Below A.heap.size A wr) (fun _ iv _=>x.n - (intOf iv).toNat)
 case atStart=>exact ⟨0,Nat.zero_le _,rfl,World.ownsRow_nil _ _ _ _,Below.refl _ _⟩
 case round =>
  obtain ⟨k,hk,rfl,HO,hB⟩:=hrel
  obtain ⟨b0,b1,b2,b3',b4,b5,b6⟩:=(HN.out.later hB).at0
  by_cases hkn:k < x.n
  · obtain ⟨b,o,ha,hNN,hx⟩:=(HX.out.later hB).part hkn
    obtain ⟨d0,d1,d2,d3,d4,d5,d6⟩:=hNN
    have C:Hid (∀ d,Below A.heap.size A d→RefKindC pv (x.c k) (K k) (E k) d):=HC.out k hkn
    rw [ha] at b6
    obtain ⟨y,hy⟩:∃ y,y=x.c k:=⟨_,rfl⟩
    rw [← hy] at d0 d1 d2 d3 d4 d5 d6 C
    have hnz:k≤2097152:=by omega
    clear ha hx hy
    have E0:Hid (E k=0):=H0.out k hkn
    have HX1:Hid (k+1≤x.n):=by show k+1≤x.n;omega
    rw [E0.out] at C
    go_wp2_with (first
     | (at_builtin;obtain ⟨v3,w3,r3,o3,b3⟩:=push_int HO2.out hB3.size hnz (K k);refine wpList_append_run rfl (.tmp 32) (.tmp 34) 39 rfl _ _ _ rfl rfl r3 ?_)
     | (go_at_call 132;refine (C.out _ hB).mono ?_;rintro e w2 ⟨rfl,hB2⟩;have HO2:Hid (w2.ownsRow A.heap.size 3 1 _ k (rowI K k)):=own_still HO.out hB2;have hB3:Below A.heap.size A w2:=bt hB hB2))
    refine ⟨⟨k+1,HX1.out,by simp,o3,hB3.trans b3⟩,?_⟩
    have:=HX1.out
    simp [intOf]
    omega
  · obtain rfl:k=x.n:=by omega
    obtain ⟨a9,cap9,rfl,hI,hle⟩:=own_isI HO.out
    have HI:=hid hI
    clear hI HO
    obtain ⟨b9,o9,rfl,hc9⟩:=HI.out (by rw [HN2.out];omega)
    have e0:=hc9 0 (by rw [HN2.out];omega)
    have e1:=hc9 1 (by rw [HN2.out];omega)
    rw [Nat.add_zero] at e0
    clear hc9
    have hn2:(1:Int) < (x.n:Int):=by rw [HN2.out];omega
    have hn1:(0:Int) < (x.n:Int):=by rw [HN2.out];omega
    obtain ⟨k0,hk0⟩:∃ k0,k0=K 0:=⟨_,rfl⟩
    obtain ⟨k1,hk1⟩:∃ k1,k1=K 1:=⟨_,rfl⟩
    rw [← hk0] at e0 HR1 HR2
    rw [← hk1] at e1 HR1 HR2
    clear hk0 hk1
    by_cases q0:k0=k1
    · subst q0
      go_wp2
      go_quiet (fail)
      go_wp2
      exact bodyPost_ret (v:=.tuple #[.int .i64 1,.int .i64 0]) (by simp [results,Tryz.results132,go_sem]) rfl ⟨by rw [HR1.out,HR2.out];simp [],bt HB.out (bt hB (bd (Below.refl _ _) _))⟩
    · have q0':(k0 == k1)=false:=by simp [q0]
      by_cases q1:k0=0
      · subst q1
        go_wp2
        go_quiet (fail)
        go_wp2
        exact bodyPost_ret (v:=.tuple #[.int .i64 1,.int .i64 0]) (by simp [results,Tryz.results132,go_sem]) rfl ⟨by rw [HR1.out,HR2.out];simp [],bt HB.out (bt hB (bd (Below.refl _ _) _))⟩
      · have q1':(k0 == 0)=false:=by simp [q1]
        by_cases q2:k1=0
        · subst q2
          go_wp2
          go_quiet (fail)
          go_wp2
          exact bodyPost_ret (v:=.tuple #[.int .i64 1,.int .i64 0]) (by simp [results,Tryz.results132,go_sem]) rfl ⟨by rw [HR1.out,HR2.out];simp [],bt HB.out (bt hB (bd (Below.refl _ _) _))⟩
        · have q2':(k1 == 0)=false:=by simp [q2]
          go_wp2
          go_quiet (fail)
          go_wp2
          exact bodyPost_ret (v:=.tuple #[.int .i64 0,.int .i64 5]) (by simp [results,Tryz.results132,go_sem]) rfl ⟨by rw [HR1.out,HR2.out];simp [q0,q1,q2],bt HB.out (bt hB (bd (Below.refl _ _) _))⟩
theorem refKind_B10 (pv:Value) (x:X) (K E:Nat→Int) (w:World) (hX:IsX w x) (hk:x.k=10) (h2n:x.n=2) (hn:x.n≤1048576) (HK:∀ i,i < x.n→∀ d,Below w.heap.size w d→RefKindC pv (x.c i) (K i) (E i) d) (h0:∀ j,j < x.n→E j=0):RefKindC pv x (if (decide (K 0=K 1) || (decide (K 0=0) || decide (K 1=0)))=true then 1 else 0) (if (decide (K 0=K 1) || (decide (K 0=0) || decide (K 1=0)))=true then 0 else 5) w:=by
 obtain ⟨A,hA,hB,hs,hn0⟩:=one_box x w
 have HN:=hid hn0
 obtain ⟨a0,a1,a2,a3,a4,a5,a6⟩:=hn0.at0
 have HB:=hid hB
 have h1':(x.k == 1)=false:=by simp;omega
 have h2':(x.k == 2)=false:=by simp;omega
 have h3':(3:Int)≤x.k:=by omega
 have h8':¬ x.k≤8:=by omega
 have h9':(x.k == 9)=false:=by simp [hk]
 have h10':(x.k == 10)=true:=by simp [hk]
 have HX:Hid (IsX A x):=hX.later hB
 have HC:Hid (∀ i,i < x.n→∀ d,Below A.heap.size A d→RefKindC pv (x.c i) (K i) (E i) d):=fun i hi d hd=>HK i hi d (bt hB hd)
 have H0:=hid h0
 clear hB hn0 hX HK h0 hk
 unfold RefKindC
 obtain ⟨r1,hr1⟩:∃ r:Int,r=(if (decide (K 0=K 1) || (decide (K 0=0) || decide (K 1=0)))=true then 1 else 0):=⟨_,rfl⟩
 obtain ⟨r2,hr2⟩:∃ r:Int,r=(if (decide (K 0=K 1) || (decide (K 0=0) || decide (K 1=0)))=true then 0 else 5):=⟨_,rfl⟩
 rw [← hr1,← hr2]
 have HR1:=hid hr1
 have HR2:=hid hr2
 have HN2:=hid h2n
 clear hr1 hr2 h2n
 go_enter Tryz.func132,Tryz.ntmps132
 go_wp2
 go_loopw [6,7] (fun u iv wr=>∃ k:Nat,k≤x.n∧iv=.int .i64 k∧Hid (wr.ownsRow A.heap.size 3 1 u k (rowI K k))∧Below A.heap.size A wr) (fun _ iv _=>x.n - (intOf iv).toNat)
 case atStart=>exact ⟨0,Nat.zero_le _,rfl,World.ownsRow_nil _ _ _ _,Below.refl _ _⟩
 case round =>
  obtain ⟨k,hk,rfl,HO,hB⟩:=hrel
  obtain ⟨b0,b1,b2,b3',b4,b5,b6⟩:=(HN.out.later hB).at0
  by_cases hkn:k < x.n
  · obtain ⟨b,o,ha,hNN,hx⟩:=(HX.out.later hB).part hkn
    obtain ⟨d0,d1,d2,d3,d4,d5,d6⟩:=hNN
    have C:Hid (∀ d,Below A.heap.size A d→RefKindC pv (x.c k) (K k) (E k) d):=HC.out k hkn
    rw [ha] at b6
    obtain ⟨y,hy⟩:∃ y,y=x.c k:=⟨_,rfl⟩
    rw [← hy] at d0 d1 d2 d3 d4 d5 d6 C
    have hnz:k≤2097152:=by omega
    clear ha hx hy
    have E0:Hid (E k=0):=H0.out k hkn
    have HX1:Hid (k+1≤x.n):=by show k+1≤x.n;omega
    rw [E0.out] at C
    go_wp2_with (first
     | (at_builtin;obtain ⟨v3,w3,r3,o3,b3⟩:=push_int HO2.out hB3.size hnz (K k);refine wpList_append_run rfl (.tmp 32) (.tmp 34) 39 rfl _ _ _ rfl rfl r3 ?_)
     | (go_at_call 132;refine (C.out _ hB).mono ?_;rintro e w2 ⟨rfl,hB2⟩;have HO2:Hid (w2.ownsRow A.heap.size 3 1 _ k (rowI K k)):=own_still HO.out hB2;have hB3:Below A.heap.size A w2:=bt hB hB2))
    refine ⟨⟨k+1,HX1.out,by simp,o3,hB3.trans b3⟩,?_⟩
    have:=HX1.out
    simp [intOf]
    omega
  · obtain rfl:k=x.n:=by omega
    obtain ⟨a9,cap9,rfl,hI,hle⟩:=own_isI HO.out
    have HI:=hid hI
    clear hI HO
    obtain ⟨b9,o9,rfl,hc9⟩:=HI.out (by rw [HN2.out];omega)
    have e0:=hc9 0 (by rw [HN2.out];omega)
    have e1:=hc9 1 (by rw [HN2.out];omega)
    rw [Nat.add_zero] at e0
    clear hc9
    have hn2:(1:Int) < (x.n:Int):=by rw [HN2.out];omega
    have hn1:(0:Int) < (x.n:Int):=by rw [HN2.out];omega
    obtain ⟨k0,hk0⟩:∃ k0,k0=K 0:=⟨_,rfl⟩
    obtain ⟨k1,hk1⟩:∃ k1,k1=K 1:=⟨_,rfl⟩
    rw [← hk0] at e0 HR1 HR2
    rw [← hk1] at e1 HR1 HR2
    clear hk0 hk1
    by_cases q0:k0=k1
    · subst q0
      go_wp2
      go_quiet (fail)
      go_wp2
      exact bodyPost_ret (v:=.tuple #[.int .i64 1,.int .i64 0]) (by simp [results,Tryz.results132,go_sem]) rfl ⟨by rw [HR1.out,HR2.out];simp [],bt HB.out (bt hB (bd (Below.refl _ _) _))⟩
    · have q0':(k0 == k1)=false:=by simp [q0]
      by_cases q1:k0=0
      · subst q1
        go_wp2
        go_quiet (fail)
        go_wp2
        exact bodyPost_ret (v:=.tuple #[.int .i64 1,.int .i64 0]) (by simp [results,Tryz.results132,go_sem]) rfl ⟨by rw [HR1.out,HR2.out];simp [],bt HB.out (bt hB (bd (Below.refl _ _) _))⟩
      · have q1':(k0 == 0)=false:=by simp [q1]
        by_cases q2:k1=0
        · subst q2
          go_wp2
          go_quiet (fail)
          go_wp2
          exact bodyPost_ret (v:=.tuple #[.int .i64 1,.int .i64 0]) (by simp [results,Tryz.results132,go_sem]) rfl ⟨by rw [HR1.out,HR2.out];simp [],bt HB.out (bt hB (bd (Below.refl _ _) _))⟩
        · have q2':(k1 == 0)=false:=by simp [q2]
          go_wp2
          go_quiet (fail)
          go_wp2
          exact bodyPost_ret (v:=.tuple #[.int .i64 0,.int .i64 5]) (by simp [results,Tryz.results132,go_sem]) rfl ⟨by rw [HR1.out,HR2.out];simp [q0,q1,q2],bt HB.out (bt hB (bd (Below.refl _ _) _))⟩
theorem refKindT_any (pv:Value) (L:ByteArray→ByteArray→Option Int):∀ (x:X) (w:World),IsX w x→TreeR x→x.size≤1048576→(∀ d,Below w.heap.size w d→RefFieldC pv L d)→RefKindC pv x (kindE L x).1 (kindE L x).2 w:=by
 refine X.ind fun x ih w hX hR hsz HF=>?_
 obtain ⟨hr,hp⟩:=(treeR_eq x).1 hR
 have hn:x.n≤1048576:=by have:=x.n_lt;omega
 have HK:∀ i,i < x.n→∀ d,Below w.heap.size w d→RefKindC pv (x.c i) (kindE L (x.c i)).1 (kindE L (x.c i)).2 d:=fun i hi d hd=>by
  obtain ⟨_,_,_,_,hx⟩:=hX.part hi
  exact ih i hi d (hx.later hd) (hp i hi) (by have:=x.size_part i hi;omega) fun d' h'=>HF d' (bt hd h')
 have rest:3≤x.k→x.k≤17→(x.k=9 ∨ x.k=10→x.n=2)→RefKindC pv x (kindE L x).1 (kindE L x).2 w:=by
  intro h3 h17 h2
  rcases errs_or (fun i=>(kindE L (x.c i)).2) x.n with ⟨he,h0⟩ | ⟨i,hi,hne,he,h0⟩
  · rw [kindE_parts h3 he]
    have fin:∀ (q:Bool) (o:Int),RefKindC pv x (if q=true then o else 0) (if q=true then 0 else 5) w→RefKindC pv x (if q=true then (o,(0:Int)) else (0,5)).1 (if q=true then (o,(0:Int)) else (0,5)).2 w:=fun q o h=>by cases q <;> exact h
    refine fin _ _ ?_
    by_cases hA:x.k≤8
    · rw [show outK x.k=2 by simp [outK];omega,show fineK x.k x.n (fun i=>(kindE L (x.c i)).1)=allB (fun i=>(kindE L (x.c i)).1) 2 x.n by rw [fineK,if_pos ⟨h3,hA⟩]]
      exact refKind_A pv x _ _ w hX h3 hA hn HK h0
    · have ho:outK x.k=1:=by rw [outK,if_neg (by omega)]
      rw [ho]
      by_cases hB:x.k≤10
      · rw [show fineK x.k x.n (fun i=>(kindE L (x.c i)).1)=(decide ((kindE L (x.c 0)).1=(kindE L (x.c 1)).1) || (decide ((kindE L (x.c 0)).1=0) || decide ((kindE L (x.c 1)).1=0))) by rw [fineK,if_neg (by omega),if_pos (by omega)]]
        by_cases h9:x.k=9
        · exact refKind_B9 pv x _ _ w hX h9 (h2 (by omega)) hn HK h0
        · exact refKind_B10 pv x _ _ w hX (by omega) (h2 (by omega)) hn HK h0
      · by_cases hC:x.k≤14
        · rw [show fineK x.k x.n (fun i=>(kindE L (x.c i)).1)=(allB (fun i=>(kindE L (x.c i)).1) 2 x.n || allB (fun i=>(kindE L (x.c i)).1) 3 x.n) by rw [fineK,if_neg (by omega),if_neg (by omega),if_pos (by omega)]]
          exact refKind_C pv x _ _ w hX (by omega) hC hn HK h0
        · rw [show fineK x.k x.n (fun i=>(kindE L (x.c i)).1)=allB (fun i=>(kindE L (x.c i)).1) 1 x.n by rw [fineK,if_neg (by omega),if_neg (by omega),if_neg (by omega)]]
          exact refKind_D pv x _ _ w hX (by omega) hn HK h0
  · rw [kindE_err h3 (by show ¬ lexN _ _=0;rw [he];exact hne)]
    show RefKindC pv x 0 (lexN _ _) w
    rw [he]
    exact refKind_err pv x _ _ i w hX hn HK hi hne h0
 rcases hr.2.2 with ⟨hk,hn0,_⟩ | ⟨hk,hn0,hnm,_⟩ | ⟨hk,hn0⟩ | ⟨h4,h14,hn0⟩ | ⟨hk,_,_⟩
 · rw [kindE_const hk hn0]
   exact refKind_const pv x (fun i=>(kindE L (x.c i)).1) (fun i=>(kindE L (x.c i)).2) w hX hk hn HK (fun j hj=>by omega)
 · rw [kindE_field hk hn0]
   have:=refKind_field pv x (fun i=>(kindE L (x.c i)).1) (fun i=>(kindE L (x.c i)).2) w hX L hk HF hn HK (fun j hj=>by omega)
   revert this
   cases L x.s x.f with
   | none=>exact fun h=>h
   | some q=>exact fun h=>h
 · exact rest (by omega) (by omega) (by omega)
 · exact rest (by omega) (by omega) (fun _=>hn0)
 · exact rest (by omega) (by omega) (by omega)
theorem refKindU_calls (pv:Value) (L:ByteArray→ByteArray→Option Int) (x:X) (w:World) (hX:IsX w x) (ok:XOk x) (hsz:x.size≤1048576) (HF:∀ d,Below w.heap.size w d→RefFieldC pv L d):Calls Tryz.prog 84 #[pv,x.val] w fun e w'=>∃ K E,e=.returned (.tuple #[.int .i64 K,.int .i64 E])∧KindIs L x K E∧Below w.heap.size w w':=by
 obtain ⟨A,hA,hB,hs,hn⟩:=one_box x w
 have HN:=hid hn
 obtain ⟨a0,a1,a2,a3,a4,a5,a6⟩:=hn.at0
 have HB:=hid hB
 have CC:Hid (Calls Tryz.prog 78 _ A _):=refCheckX_any x A (hX.later hB) ok hsz
 have CK:Hid (∀ d,Below w.heap.size w d→TreeR x→RefKindC pv x (kindE L x).1 (kindE L x).2 d):=fun d hd h2=>refKindT_any pv L x d (hX.later hd) h2 hsz fun d' h'=>HF d' (bt hd h')
 clear hB hn hX ok hsz HF
 go_enter Tryz.func84,Tryz.ntmps84
 go_wp2_with (first
  | (go_at_call 132;refine (CK.out _ (bt HB.out hB2) q2).mono ?_;rintro e w4 ⟨rfl,hB4⟩)
  | (go_at_call 78;refine CC.out.mono ?_;rintro e w2 ⟨r,rfl,hr,hB2⟩;obtain ⟨c0,c1,c2,c3,c4,c5,c6⟩:=(HN.out.later hB2).at0;rcases hr with ⟨q1,rfl⟩ | ⟨q1,q2,rfl⟩ | ⟨q1,q2,rfl⟩))
 · exact bodyPost_ret (v:=.tuple #[.int .i64 0,.int .i64 1]) (by simp [results,Tryz.results84,go_sem]) rfl ⟨0,1,rfl,.inr ⟨fun h=>by omega,rfl,rfl⟩,bt HB.out hB2⟩
 · exact bodyPost_ret (v:=.tuple #[.int .i64 (kindE L x).1,.int .i64 (kindE L x).2]) (by simp [results,Tryz.results84,go_sem]) rfl ⟨_,_,rfl,.inl ⟨q1,q2,rfl,rfl⟩,bt (bt HB.out hB2) hB4⟩
 · exact bodyPost_ret (v:=.tuple #[.int .i64 0,.int .i64 1]) (by simp [results,Tryz.results84,go_sem]) rfl ⟨0,1,rfl,.inr ⟨fun h=>q2 h.2,rfl,rfl⟩,bt HB.out hB2⟩
theorem refCond_calls (nv:Value) (R:Int→Int→Prop) (x:X) (w:World) (CK:∀ d,Below w.heap.size w d→Calls Tryz.prog 84 #[nv,x.val] d fun e w'=>∃ K E,e=.returned (.tuple #[.int .i64 K,.int .i64 E])∧R K E∧Below d.heap.size d w') :
 Calls Tryz.prog 30 #[nv,x.val] w fun e w'=>∃ K E,e=.returned (.int .i64 (condZ K E))∧R K E∧Below w.heap.size w w':=by
 obtain ⟨A,hA,hB,hs,hn⟩:=one_box x w
 obtain ⟨a0,a1,a2,a3,a4,a5,a6⟩:=hn.at0
 have HB:=hid hB
 have C:Hid (Calls Tryz.prog 84 _ A _):=CK A hB
 clear hB hn CK
 go_enter Tryz.func30,Tryz.ntmps30
 go_wp2_with (first | (go_at_call 84;refine C.out.mono ?_;rintro e w2 ⟨K,E,rfl,hr,hB2⟩;have HR:=hid hr;clear hr;by_cases q1:E=0))
 · rename_i h
   go_ret
   exact ⟨K,E,by simp at h;simp [condZ,q1,h],HR.out,bt HB.out hB2⟩
 · rename_i h
   go_ret
   exact ⟨K,E,by simp at h;simp [condZ,q1,h],HR.out,bt HB.out hB2⟩
 · go_ret
   exact ⟨K,E,by simp [condZ,q1],HR.out,bt HB.out hB2⟩
def RefNewIs (w:World) (a:Option Addr) (ns cs:Nat) (Q:Nat→Sch) (av:Option Addr) (nv cv:Nat) (V:Nat→ByteArray) (at_:Option Addr) (nt ct:Nat) (T:Nat→ByteArray) (e:Ending) (w':World):Prop :=
 (newZ nv nt T ns Q=0∧nv=nt∧ns≤16∧(∀ j,j < nv→∃ i,idx (fun i=>(Q i).nm) (T j) ns=some i)∧∃ p,e=.returned (.tuple #[.pointer (some ⟨p,0,none⟩),.int .i64 0])∧RefN w' p a ns cs Q av nv cv V at_ ct T∧Below w.heap.size w w') ∨
   (¬ newZ nv nt T ns Q=0∧e=.returned (.tuple #[.pointer none,.int .i64 (newZ nv nt T ns Q)])∧Below w.heap.size w w')
theorem refNew_bad (a:Option Addr) (ns cs:Nat) (Q:Nat→Sch) (av:Option Addr) (nv cv:Nat) (at_:Option Addr) (nt ct:Nat) (w:World) (H:Schs w a ns Q) (hb:¬ (bookZ ns Q=0∧nv=nt)) :
 Calls Tryz.prog 29 #[.slice a ns cs,.slice av nv cv,.slice at_ nt ct] w (RV (.tuple #[.pointer none,.int .i64 1]) w):=by
 have C:Hid (Calls Tryz.prog 24 _ w _):=refBook_any a ns cs Q w H
 clear H
 by_cases h:bookZ ns Q=0
 · have hne:((nv:Int) != (nt:Int))=true:=by simp;omega
   rw [h] at C
   clear h hb
   go_enter Tryz.func29,Tryz.ntmps29
   go_wp2_with (first | (go_at_call 24;refine C.out.mono ?_;rintro e w2 ⟨rfl,hB2⟩))
   exact bodyPost_ret (v:=.tuple #[.pointer none,.int .i64 1]) (by simp [results,Tryz.results29,go_sem]) rfl ⟨rfl,hB2⟩
 · have h':(bookZ ns Q != 0)=true:=by simp [h]
   generalize bookZ ns Q=r at *
   clear hb
   go_enter Tryz.func29,Tryz.ntmps29
   go_wp2_with (first | (go_at_call 24;refine C.out.mono ?_;rintro e w2 ⟨rfl,hB2⟩))
   exact bodyPost_ret (v:=.tuple #[.pointer none,.int .i64 1]) (by simp [results,Tryz.results29,go_sem]) rfl ⟨rfl,hB2⟩
theorem refNew_loop (a:Option Addr) (ns cs:Nat) (Q:Nat→Sch) (av:Option Addr) (nv cv:Nat) (V:Nat→ByteArray) (at_:Option Addr) (ct:Nat) (T:Nat→ByteArray) (w:World) (H:Schs w a ns Q) (hV:Txs w av nv V) (hT:Txs w at_ nv T) (hm:nv≤1048576) (hb:bookZ ns Q=0) :
 Calls Tryz.prog 29 #[.slice a ns cs,.slice av nv cv,.slice at_ nv ct] w fun e w'=>(lackB T ns Q nv=false∧∃ p,e=.returned (.tuple #[.pointer (some ⟨p,0,none⟩),.int .i64 0])∧RefN w' p a ns cs Q av nv cv V at_ ct T∧Below w.heap.size w w') ∨ (lackB T ns Q nv=true∧e=.returned (.tuple #[.pointer none,.int .i64 6])∧Below w.heap.size w w'):=by
 have C:=refBook_any a ns cs Q w H
 rw [hb] at C
 have HC:=hid C
 have HNS:Hid (ns≤16):=(book_small hb).1
 have HS:=hid H
 have HV:=hid hV
 have HT:=hid hT
 clear C H hV hT hb
 go_enter Tryz.func29,Tryz.ntmps29
 go_wp2_with (first | (go_at_call 24;refine HC.out.mono ?_;rintro e w2 ⟨rfl,hB2⟩))
 go_loopw [8] (fun v wr=>∃ k:Nat,k≤nv∧v=.int .i64 k∧Hid (lackB T ns Q k=false)∧Below w.heap.size w wr) (fun v _=>nv - (intOf v).toNat)
 case atStart=>exact ⟨0,Nat.zero_le _,rfl,rfl,hB2⟩
 case round =>
  obtain ⟨k,hk,rfl,HLK,hB⟩:=hrel
  by_cases hkn:k < nv
  · obtain ⟨b1,ot,rfl,hct⟩:=(HT.out.later hB) (by omega)
    have f1:=hct k hkn
    clear hct
    cases e:idx (fun i=>(Q i).nm) (T k) ns with
    | none =>
      have CF:Hid (Calls Tryz.prog 83 #[.slice a ns cs,.string (T k)] wr _):=refFind_none a ns cs (fun i=>(Q i).nm) (fun i=>(Q i).v) (T k) wr (HS.out.later hB).1 (by have:=HNS.out;omega) (idx_none _ _ _ e)
      have HE:=hid e
      clear e
      go_wp2_with (first | (go_at_call 83;refine CF.out.mono ?_;rintro e w3 ⟨rfl,hB3⟩))
      try rw [Exit.noGoto_ret]
      exact bodyPost_ret (v:=.tuple #[.pointer none,.int .i64 6]) (by simp [results,Tryz.results29,go_sem]) rfl (.inr ⟨lackB_at HE.out hkn,rfl,bt hB hB3⟩)
    | some i =>
      obtain ⟨i1,i2,i3⟩:=idx_some _ _ _ _ e
      have CF:Hid (Calls Tryz.prog 83 #[.slice a ns cs,.string (T k)] wr _):=refFind_some a ns cs i (fun i=>(Q i).nm) (fun i=>(Q i).v) (T k) wr (HS.out.later hB).1 (by have:=HNS.out;omega) i1 i2 i3
      have HL1:Hid (lackB T ns Q (k+1)=false):=by show lackB T ns Q (k+1)=false;simp [lackB,HLK.out,e]
      clear e i1 i2 i3
      go_wp2_with (first | (go_at_call 83;refine CF.out.mono ?_;rintro e w3 ⟨rfl,hB3⟩))
      refine ⟨⟨k+1,by omega,by simp,HL1,bt hB hB3⟩,?_⟩
      simp [intOf]
      omega
  · obtain rfl:k=nv:=by omega
    go_wp2
    have hB9:Below wr.heap.size wr (wr.alloc (.cells #[.slice a ns cs,.slice av k cv,.slice at_ k ct] 141)):=nwB _ _
    exact bodyPost_ret (v:=.tuple #[.pointer (some ⟨wr.heap.size,0,none⟩),.int .i64 0]) (by simp [results,Tryz.results29,go_sem]) rfl (.inl ⟨HLK.out,wr.heap.size,rfl,⟨by rw [World.cell?_alloc_at _ _ _ _ rfl];rfl,by rw [World.cell?_alloc_at _ _ _ _ rfl];rfl,by rw [World.cell?_alloc_at _ _ _ _ rfl];rfl,(HS.out.later hB).later hB9,(HV.out.later hB).later hB9,(HT.out.later hB).later hB9⟩,bt hB hB9⟩)
theorem refNew_any (a:Option Addr) (ns cs:Nat) (Q:Nat→Sch) (av:Option Addr) (nv cv:Nat) (V:Nat→ByteArray) (at_:Option Addr) (nt ct:Nat) (T:Nat→ByteArray) (w:World) (H:Schs w a ns Q) (hV:Txs w av nv V) (hT:Txs w at_ nt T) (hm:nt≤1048576) :
 Calls Tryz.prog 29 #[.slice a ns cs,.slice av nv cv,.slice at_ nt ct] w fun e w'=>RefNewIs w a ns cs Q av nv cv V at_ nt ct T e w':=by
 by_cases hb:bookZ ns Q=0∧nv=nt
 · obtain ⟨hb,rfl⟩:=hb
   refine (refNew_loop a ns cs Q av nv cv V at_ ct T w H hV hT hm hb).mono ?_
   rintro e w' (⟨h1,h2⟩ | ⟨h1,h2⟩)
   · exact .inl ⟨by simp [newZ,hb,h1],rfl,(book_small hb).1,lackB_no h1,h2⟩
   · have e6:newZ nv nv T ns Q=6:=by simp [newZ,hb,h1]
     exact .inr ⟨by omega,by rw [e6];exact h2⟩
 · refine (refNew_bad a ns cs Q av nv cv at_ nt ct w H hb).mono ?_
   rintro e w' h
   have e1:newZ nv nt T ns Q=1:=by rw [newZ,if_neg hb]
   exact .inr ⟨by omega,by rw [e1];exact h⟩
end Go.Proofs.YtkfpgkohkhhlhaaGreatDoor
