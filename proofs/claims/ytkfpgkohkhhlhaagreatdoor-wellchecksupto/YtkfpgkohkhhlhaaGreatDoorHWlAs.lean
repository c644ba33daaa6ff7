/- Texts that the last one stands on. -/
import Derived.Test.YtkfpgkohkhhlhaaGreatDoorHQryCheck
import Derived.Test.YtkfpgkohkhhlhaaGreatDoorHPatApart
import Derived.Test.YtkfpgkohkhhlhaaGreatDoorHSchBase
import Derived.Test.YtkfpgkohkhhlhaaGreatDoorRows
import Derived.LaidEql
import Derived.Stop.Asserts
import Derived.RowKitTokens
import Derived.Laws.Rows
import Derived.Deep.QuietTactic
set_option maxRecDepth 100000
set_option maxHeartbeats 4000000
namespace Go.Proofs.YtkfpgkohkhhlhaaGreatDoor
open Go.RowKit Go.Extern.Stop Go.Stop Go.Extern
inductive Rfs where
 | base (e:Int):Rfs
 | row (i:Int) (y:Rfs):Rfs
abbrev rfsV (e:Int):Value:=.iface 63 (.int .i64 e)
def Rfs.val:Rfs→Value
 | .base e=>rfsV e
 | .row i y=>.iface 217 (.agg #[.int .i64 i,y.val])
def Rfs.root:Rfs→Int
 | .base e=>e
 | .row _ y=>y.root
abbrev hdl (t:Nat):Value:=.pointer (some ⟨3,t,none⟩)
abbrev rty (t:Nat):Value:=.iface 182 (.agg #[hdl t])
abbrev asV (b:Nat):Value:=.agg #[hdl 67,.pointer (some ⟨b,0,none⟩),.int .u64 150]
theorem Tryz.asValueOf (a:Addr) (w:World):(callFunc 71 #[.iface 67 (.pointer (some a))]).run Tryz.prog w=.ok (.value (asV w.heap.size)) (w.alloc (.cells #[.pointer (some a)] 67)):=by
 rw [@run_callFunc_extern Tryz.prog 71 _ (fun args=>Extern.ReflectliteValue.unpack (args.getD 0 (.tuple #[]))) Tryz.func71 (by kernel_rfl) (by kernel_rfl) (by kernel_rfl) (by kernel_rfl)]
 kernel_rfl
theorem Tryz.asValueOfR (e:Int) (w:World):(callFunc 71 #[rfsV e]).run Tryz.prog w=.ok (.value (.agg #[hdl 63,.pointer (some ⟨w.heap.size,0,none⟩),.int .u64 130])) (w.alloc (.cells #[.int .i64 e] 63)):=by
 rw [@run_callFunc_extern Tryz.prog 71 _ (fun args=>Extern.ReflectliteValue.unpack (args.getD 0 (.tuple #[]))) Tryz.func71 (by kernel_rfl) (by kernel_rfl) (by kernel_rfl) (by kernel_rfl)]
 kernel_rfl
theorem Tryz.asType (b:Nat) (w:World):(callFunc 72 #[asV b]).run Tryz.prog w=.ok (.value (rty 67)) w:=by
 rw [@run_callFunc_extern Tryz.prog 72 _ (Extern.ReflectliteValue.methodAny (Extern.ReflectliteValue.valueError "reflectlite.Value.Type" 0) fun t _ _ _ => Extern.ReflectliteType.toType t) Tryz.func72 (by kernel_rfl) (by kernel_rfl) (by kernel_rfl) (by kernel_rfl)]
 kernel_rfl
theorem Tryz.asKindP (w:World):(callFunc 240 #[hdl 67]).run Tryz.prog w=.ok (.value (.int .u8 22)) w:=by
 rw [@run_callFunc_extern Tryz.prog 240 _ (Extern.ReflectliteType.abiMethod fun t=>do pure (.int .u8 (← Extern.Rtype.kind t))) Tryz.func240 (by kernel_rfl) (by kernel_rfl) (by kernel_rfl) (by kernel_rfl)]
 kernel_rfl
theorem Tryz.asKindR (w:World):(callFunc 240 #[hdl 63]).run Tryz.prog w=.ok (.value (.int .u8 2)) w:=by
 rw [@run_callFunc_extern Tryz.prog 240 _ (Extern.ReflectliteType.abiMethod fun t=>do pure (.int .u8 (← Extern.Rtype.kind t))) Tryz.func240 (by kernel_rfl) (by kernel_rfl) (by kernel_rfl) (by kernel_rfl)]
 kernel_rfl
theorem Tryz.asElemT (w:World):(callFunc 250 #[.agg #[hdl 67]]).run Tryz.prog w=.ok (.value (rty 63)) w:=by
 rw [@run_callFunc_extern Tryz.prog 250 _ (Extern.ReflectliteType.method Extern.ReflectliteType.elem) Tryz.func250 (by kernel_rfl) (by kernel_rfl) (by kernel_rfl) (by kernel_rfl)]
 kernel_rfl
theorem Tryz.asImpl (w:World):(callFunc 251 #[.agg #[hdl 63],rty 66]).run Tryz.prog w=.ok (.value (.bool true)) w:=by
 rw [@run_callFunc_extern Tryz.prog 251 _ (Extern.ReflectliteType.relation "Implements" Extern.ReflectliteType.implements_) Tryz.func251 (by kernel_rfl) (by kernel_rfl) (by kernel_rfl) (by kernel_rfl)]
 kernel_rfl
theorem Tryz.asAssI (w:World):(callFunc 248 #[.agg #[hdl 217],rty 63]).run Tryz.prog w=.ok (.value (.bool false)) w:=by
 rw [@run_callFunc_extern Tryz.prog 248 _ (Extern.ReflectliteType.relation "AssignableTo" Extern.ReflectliteType.assignableTo) Tryz.func248 (by kernel_rfl) (by kernel_rfl) (by kernel_rfl) (by kernel_rfl)]
 kernel_rfl
theorem Tryz.asAssR (w:World):(callFunc 248 #[.agg #[hdl 63],rty 63]).run Tryz.prog w=.ok (.value (.bool true)) w:=by
 rw [@run_callFunc_extern Tryz.prog 248 _ (Extern.ReflectliteType.relation "AssignableTo" Extern.ReflectliteType.assignableTo) Tryz.func248 (by kernel_rfl) (by kernel_rfl) (by kernel_rfl) (by kernel_rfl)]
 kernel_rfl
theorem Tryz.asTypeOfI (v:Value) (w:World):(callFunc 123 #[.iface 217 v]).run Tryz.prog w=.ok (.value (rty 217)) w:=by
 rw [@run_callFunc_extern Tryz.prog 123 _ Extern.ReflectliteType.typeOf Tryz.func123 (by kernel_rfl) (by kernel_rfl) (by kernel_rfl) (by kernel_rfl)]
 kernel_rfl
theorem Tryz.asTypeOfR (v:Value) (w:World):(callFunc 123 #[.iface 63 v]).run Tryz.prog w=.ok (.value (rty 63)) w:=by
 rw [@run_callFunc_extern Tryz.prog 123 _ Extern.ReflectliteType.typeOf Tryz.func123 (by kernel_rfl) (by kernel_rfl) (by kernel_rfl) (by kernel_rfl)]
 kernel_rfl
theorem Tryz.asMKind (v : Value) (w : World) : (Go.method 419 182 (.agg #[v]) "Kind").run Tryz.prog w = .ok (240, v) w := by kernel_rfl
theorem Tryz.asMElem (v : Value) (w : World) : (Go.method 419 182 v "Elem").run Tryz.prog w = .ok (250, v) w := by kernel_rfl
theorem Tryz.asMImpl (v : Value) (w : World) : (Go.method 419 182 v "Implements").run Tryz.prog w = .ok (251, v) w := by kernel_rfl
theorem Tryz.asMAss (v : Value) (w : World) : (Go.method 419 182 v "AssignableTo").run Tryz.prog w = .ok (248, v) w := by kernel_rfl
theorem Tryz.asMUnwrap (v : Value) (w : World) : (Go.method 419 217 v "Unwrap").run Tryz.prog w = .ok (259, v) w := by kernel_rfl
theorem Tryz.asNoAs (v:Value) (xT:TypeId) (w:World):(Instr.typeAssert (.iface 217 v) xT 187 true).run Tryz.prog w=.ok (.tuple #[.nilIface,.bool false]) w:=run_typeAssert_lacksB Tryz.underlying187 (by kernel_rfl) (by kernel_rfl) v xT w
theorem Tryz.asHasU (v:Value) (xT:TypeId) (w:World):(Instr.typeAssert (.iface 217 v) xT 190 true).run Tryz.prog w=.ok (.tuple #[.iface 217 v,.bool true]) w:=run_typeAssert_hasB Tryz.underlying190 (by kernel_rfl) v xT w
def errV (e:Int):Value:=if e=0 then .nilIface else rfsV e
def ErrW (z:Int) (v:Value):Prop:=(z=0∧v=.nilIface) ∨ (z ≠ 0∧∃ y:Rfs,y.root=z∧v=y.val)
theorem errW_of (z:Int):ErrW z (errV z):=by
 unfold errV
 split
 · exact .inl ⟨by assumption,rfl⟩
 · exact .inr ⟨by assumption,.base z,rfl,rfl⟩
theorem refused_any (e:Int) (w:World):Calls Tryz.prog 113 #[.int .i64 e] w fun r w'=>r=.returned (errV e)∧w'=w:=by
 unfold errV
 by_cases h:e=0
 · subst h
   go_enter Tryz.func113,Tryz.ntmps113
   go_wp2
   go_ret
   exact ⟨rfl,rfl⟩
 · have t:(e == 0)=false:=by simpa using h
   rw [if_neg h]
   clear h
   go_enter Tryz.func113,Tryz.ntmps113
   go_wp2
   go_ret
   exact ⟨rfl,rfl⟩
theorem refusedIf_any (b:Bool) (e:Int) (w:World):Calls Tryz.prog 111 #[.bool b,.int .i64 e] w fun r w'=>r=.returned (if b then rfsV e else .nilIface)∧w'=w:=by
 cases b
 all_goals go_enter Tryz.func111,Tryz.ntmps111
 all_goals go_wp2
 all_goals go_ret
 all_goals exact ⟨rfl,rfl⟩
theorem method_run {P:Program} {z:Sem Value} {f:TypeId→Addr→Nat→Nat→Sem Value} {v:Value} {t:TypeId} {a:Addr} {fl:Nat} {w:World} (h:(Extern.ReflectliteValue.parts v).run P w=.ok (some (t,a,fl)) w) :
 (Extern.ReflectliteValue.method z f #[v]).run P w=(f t a fl (fl % 32)).run P w:=by
 show (Bind.bind (Extern.ReflectliteValue.parts v) _).run P w=_
 rw [Sem.run_bind,h]
 rfl
theorem set_run {P:Program} {v x:Value} {t t':TypeId} {a a':Addr} {fl fl':Nat} {w w':World} {u:Value} (h:(Extern.ReflectliteValue.parts v).run P w=.ok (some (t,a,fl)) w) (h':(Extern.ReflectliteValue.parts x).run P w=.ok (some (t',a',fl')) w)
 (hfl:fl / Extern.ReflectliteValue.flagAddr % 2=1) (hl:(loadVar t' a').run P w=.ok u w) (hd:(Extern.Rtype.directlyAssignable t t').run P w=.ok true w) (hs:(storeVar t a u).run P w=.ok () w') :
 (Extern.ReflectliteValue.set #[v,x]).run P w=.ok (.tuple #[]) w':=by
 show (Bind.bind (Extern.ReflectliteValue.parts v) _).run P w=_
 rw [Sem.run_bind,h]
 show (Bind.bind (Extern.ReflectliteValue.parts x) _).run P w=_
 rw [Sem.run_bind,h']
 simp [hfl,hl,hd,hs]
theorem Tryz.asIsNil (b:Nat) (a:Addr) (w:World) (hc:w.cell? ⟨b,0,none⟩=some (.pointer (some a))):(callFunc 73 #[asV b]).run Tryz.prog w=.ok (.value (.bool false)) w:=by
 rw [@run_callFunc_extern Tryz.prog 73 _ (Extern.ReflectliteValue.method (Extern.ReflectliteValue.valueError "reflectlite.Value.IsNil" 0) Extern.ReflectliteValue.isNil) Tryz.func73 (by kernel_rfl) (by kernel_rfl) (by kernel_rfl) (by kernel_rfl)]
 have h1:(Extern.ReflectliteValue.parts (asV b)).run Tryz.prog w=.ok (some (67,⟨b,0,none⟩,150)) w:=by kernel_rfl
 have h2:(loadVar 67 ⟨b,0,none⟩).run Tryz.prog w=.ok (.pointer (some a)) w:=by
  have:(isAgg 67).run Tryz.prog w=.ok false w:=by kernel_rfl
  simp [loadVar,this,hc]
 rw [method_run h1]
 simp [Extern.ReflectliteValue.isNil,h2]
theorem Tryz.asElemV (b:Nat) (a:Addr) (w:World) (hc:w.cell? ⟨b,0,none⟩=some (.pointer (some a))):(callFunc 124 #[asV b]).run Tryz.prog w=.ok (.value (.agg #[hdl 63,.pointer (some a),.int .u64 386])) w:=by
 rw [@run_callFunc_extern Tryz.prog 124 _ (Extern.ReflectliteValue.method (Extern.ReflectliteValue.valueError "reflectlite.Value.Elem" 0) Extern.ReflectliteValue.elem) Tryz.func124 (by kernel_rfl) (by kernel_rfl) (by kernel_rfl) (by kernel_rfl)]
 have h1:(Extern.ReflectliteValue.parts (asV b)).run Tryz.prog w=.ok (some (67,⟨b,0,none⟩,150)) w:=by kernel_rfl
 have h2:(loadVar 67 ⟨b,0,none⟩).run Tryz.prog w=.ok (.pointer (some a)) w:=by
  have:(isAgg 67).run Tryz.prog w=.ok false w:=by kernel_rfl
  simp [loadVar,this,hc]
 have h3:(Extern.Rtype.elem? 67).run Tryz.prog w=.ok (some 63) w:=by kernel_rfl
 have h4:(Extern.ReflectliteValue.mk 63 a Extern.ReflectliteValue.flagAddr).run Tryz.prog w=.ok (.agg #[hdl 63,.pointer (some a),.int .u64 386]) w:=by kernel_rfl
 rw [method_run h1]
 simp [Extern.ReflectliteValue.elem,h2,h3,h4]
theorem Tryz.asSet (a b:Nat) (e z:Int) (w:World) (hb:w.cell? ⟨b,0,none⟩=some (.int .i64 e)) (ha:w.cell? ⟨a,0,none⟩=some (.int .i64 z)) (hf:w.frozen? ⟨a,0,none⟩=false) :
 (callFunc 125 #[.agg #[hdl 63,.pointer (some ⟨a,0,none⟩),.int .u64 386],.agg #[hdl 63,.pointer (some ⟨b,0,none⟩),.int .u64 130]]).run Tryz.prog w=.ok (.value (.tuple #[])) (w.setCell ⟨a,0,none⟩ (.int .i64 e)):=by
 rw [@run_callFunc_extern Tryz.prog 125 _ Extern.ReflectliteValue.set Tryz.func125 (by kernel_rfl) (by kernel_rfl) (by kernel_rfl) (by kernel_rfl)]
 have h1:(Extern.ReflectliteValue.parts (.agg #[hdl 63,.pointer (some ⟨a,0,none⟩),.int .u64 386])).run Tryz.prog w=.ok (some (63,⟨a,0,none⟩,386)) w:=by kernel_rfl
 have h2:(Extern.ReflectliteValue.parts (.agg #[hdl 63,.pointer (some ⟨b,0,none⟩),.int .u64 130])).run Tryz.prog w=.ok (some (63,⟨b,0,none⟩,130)) w:=by kernel_rfl
 have h3:(loadVar 63 ⟨b,0,none⟩).run Tryz.prog w=.ok (.int .i64 e) w:=by
  have:(isAgg 63).run Tryz.prog w=.ok false w:=by kernel_rfl
  simp [loadVar,this,hb]
 have h4:(Extern.Rtype.directlyAssignable 63 63).run Tryz.prog w=.ok true w:=by kernel_rfl
 have h5:(storeVar 63 ⟨a,0,none⟩ (.int .i64 e)).run Tryz.prog w=.ok () (w.setCell ⟨a,0,none⟩ (.int .i64 e)):=by
  have:(sizeOf 63).run Tryz.prog w=.ok 1 w:=by kernel_rfl
  simp [storeVar,this,Value.cells,storeCells,go_sem,ha,hf]
 rw [set_run h1 h2 (by decide) h3 h4 h5]
 rfl
theorem Rfs.iface (y:Rfs):∃ t u,y.val=.iface t u:=by cases y <;> exact ⟨_,_,rfl⟩
theorem unwrapW_any (i:Int) (v:Value) (w:World):Calls Tryz.prog 259 #[.agg #[.int .i64 i,v]] w (RV v w):=by
 go_enter Tryz.func259,Tryz.ntmps259
 go_wp2
 exact bodyPost_ret (v:=v) (by simp [results,Tryz.results259,go_sem]) rfl ⟨rfl,nwB _ _⟩
theorem as_loop (y:Rfs) (b vb:Nat) (z:Int) (w:World) (tg:Value) (hb:Boxed w b 63 (.int .i64 z)) (hv:w.cell? ⟨vb,0,none⟩=some (.pointer (some ⟨b,0,none⟩))) :
 Calls Tryz.prog 74 #[y.val,tg,asV vb,rty 63] w fun e w'=>e=.returned (.bool true)∧Boxed w' b 63 (.int .i64 y.root)∧Below b w w':=by
 have tI:=Tryz.asTypeOfI
 have tR:=Tryz.asTypeOfR
 have aI:=Tryz.asAssI
 have aR:=Tryz.asAssR
 have mA:=Tryz.asMAss
 have mU:=Tryz.asMUnwrap
 have nA:=Tryz.asNoAs
 have hU:=Tryz.asHasU
 have vR:=Tryz.asValueOfR
 obtain ⟨A,hA⟩:∃ A,w.alloc (.cells #[hdl 67,.pointer (some ⟨vb,0,none⟩),.int .u64 150] 120)=A:=⟨_,rfl⟩
 have hBA:Below w.heap.size w A:=by rw [← hA];exact nwB w _
 have HQ:Hid (A.heap[w.heap.size]? = some (.cells #[hdl 67,.pointer (some ⟨vb,0,none⟩),.int .u64 150] 120 (0,0))):=by rw [← hA];exact alloc_new w _
 have hsA:A.heap.size=w.heap.size+1:=by rw [← hA];simp
 have hblt:=hb.lt
 have HB:Hid (Boxed A b 63 (.int .i64 z)):=Boxed.kept_of hb hBA hblt
 have HV:Hid (A.cell? ⟨vb,0,none⟩=_):=cell_later hv hBA
 clear hb hv
 go_enter Tryz.func74,Tryz.ntmps74
 go_wp2
 go_loopw [0] (fun u wr=>∃ x:Rfs,u=x.val∧x.root=y.root∧Below A.heap.size A wr) (fun u _=>SizeOf.sizeOf u)
 case atStart=>exact ⟨y,rfl,rfl,Below.refl _ _⟩
 case round =>
  obtain ⟨x,rfl,hr,hB⟩:=hrel
  have HR:=hid hr
  clear hr
  cases x with
  | base e =>
    have hbw:Boxed wr b 63 (.int .i64 z):=Boxed.kept_of HB.out hB (by omega)
    have hvw:=cell_later HV.out hB
    have hq:wr.heap[w.heap.size]? = some (.cells #[hdl 67,.pointer (some ⟨vb,0,none⟩),.int .u64 150] 120 (0,0)):=(hB.block _ (by omega)).trans HQ.out
    have q0:wr.cell? ⟨w.heap.size,0,none⟩=some (hdl 67):=by simp [World.cell?,hq]
    have q1:wr.cell? ⟨w.heap.size,1,none⟩=some (.pointer (some ⟨vb,0,none⟩)):=by simp [World.cell?,hq]
    have q2:wr.cell? ⟨w.heap.size,2,none⟩=some (.int .u64 150):=by simp [World.cell?,hq]
    have hEl:=Tryz.asElemV vb ⟨b,0,none⟩ wr hvw
    have hb2:=hbw.alloc (.cells #[.int .i64 e] 63)
    have hSet:=Tryz.asSet b wr.heap.size e z (wr.alloc (.cells #[.int .i64 e] 63)) (Boxed.new wr 63 (.int .i64 e)).cell hb2.cell hb2.frozen
    have HS:Hid (Boxed ((wr.alloc (.cells #[.int .i64 e] 63)).setCell ⟨b,0,none⟩ (.int .i64 e)) b 63 (.int .i64 e)):=hb2.set _
    have HW:Hid (Below b w ((wr.alloc (.cells #[.int .i64 e] 63)).setCell ⟨b,0,none⟩ (.int .i64 e))):=((hBA.mono (Nat.le_of_lt hblt)).trans (hB.mono (by omega))).alloc (by have:=hB.size;omega) _ |>.setCell (p:=⟨b,0,none⟩) (Nat.le_refl _) _
    clear hbw hvw hb2 hq
    simp only [Rfs.val]
    go_wp2
    go_ret
    exact ⟨rfl,by rw [← HR.out];exact HS.out,HW.out⟩
  | row i1 x =>
    cases x with
    | base a1 =>
      simp only [Rfs.val]
      go_wp2_with (first | (go_at_call 259;refine (unwrapW_any i1 (rfsV a1) _).mono ?_;rintro e w2 ⟨rfl,hB2⟩))
      go_roundw
      case rel=>exact ⟨.base a1,rfl,HR.out,hB.trans (hB2.mono hB.size)⟩
      case measure=>simp;omega
    | row i2 x =>
      simp only [Rfs.val]
      go_wp2_with (first | (go_at_call 259;refine (unwrapW_any i1 (.iface 217 (.agg #[.int .i64 i2,x.val])) _).mono ?_;rintro e w2 ⟨rfl,hB2⟩))
      go_roundw
      case rel=>exact ⟨.row i2 x,rfl,HR.out,hB.trans (hB2.mono hB.size)⟩
      case measure=>simp;omega
abbrev askC (bk:Value) (q:Qy) (vv nv mv pv:Value):Array Value:=#[bk,.int .i64 q.p.k,.string q.p.s,.string q.p.t,.int .i64 q.p.lo,.int .i64 q.p.hi,.slice q.p.a q.p.n q.p.cap,.slice q.a q.n q.cap,.string q.key,.int .i64 q.mode,.int .i64 q.win,.slice q.ia q.m q.icap,vv,nv,mv,pv]
def AB (W:World) (b:Nat) (bk:Value) (q:Qy) (vv nv mv pv:Value):Prop:=W.heap[b]? = some (.cells (askC bk q vv nv mv pv) 59 (0,0))
section
variable {W:World} {b:Nat} {bk:Value} {q:Qy} {vv nv mv pv:Value}
theorem AB.lt (h:AB W b bk q vv nv mv pv):b < W.heap.size:=(Array.getElem?_eq_some_iff.1 h).1
theorem AB.later {W':World} (h:AB W b bk q vv nv mv pv) (hB:Below W.heap.size W W'):AB W' b bk q vv nv mv pv:=(hB.block b h.lt).trans h
theorem AB.book (h:AB W b bk q vv nv mv pv):W.cell? ⟨b,0,none⟩=some bk:=by unfold AB at h;simp [World.cell?,h]
theorem AB.node (h:AB W b bk q vv nv mv pv):NodeP W b 1 q.p:=by unfold AB at h;refine ⟨?_,?_,?_,?_,?_,?_⟩ <;> simp [World.cell?,h]
theorem AB.rest (h:AB W b bk q vv nv mv pv):W.cell? ⟨b,7,none⟩=some (.slice q.a q.n q.cap)∧W.cell? ⟨b,8,none⟩=some (.string q.key)∧W.cell? ⟨b,9,none⟩=some (.int .i64 q.mode)∧W.cell? ⟨b,10,none⟩=some (.int .i64 q.win)∧W.cell? ⟨b,11,none⟩=some (.slice q.ia q.m q.icap):=by
 unfold AB at h
 refine ⟨?_,?_,?_,?_,?_⟩ <;> simp [World.cell?,h]
theorem AB.made (h:AB W b bk q vv nv mv pv):W.cell? ⟨b,12,none⟩=some vv∧W.cell? ⟨b,13,none⟩=some nv∧W.cell? ⟨b,14,none⟩=some mv∧W.cell? ⟨b,15,none⟩=some pv:=by
 unfold AB at h
 refine ⟨?_,?_,?_,?_⟩ <;> simp [World.cell?,h]
theorem AB.frozen (h:AB W b bk q vv nv mv pv) (j:Nat):W.frozen? ⟨b,j,none⟩=false:=by unfold AB at h;simp [World.frozen?,h]
end
theorem NodeP.at1 {w:World} {B:Nat} {x:Pt} (h:NodeP w B 1 x):w.cell? ⟨B,1,none⟩=some (.int .i64 x.k)∧w.cell? ⟨B,2,none⟩=some (.string x.s)∧w.cell? ⟨B,3,none⟩=some (.string x.t)∧w.cell? ⟨B,4,none⟩=some (.int .i64 x.lo) ∧
 w.cell? ⟨B,5,none⟩=some (.int .i64 x.hi)∧w.cell? ⟨B,6,none⟩=some (.slice x.a x.n x.cap):=h
def Says (f:Nat) (b:Nat) (z:Int) (W:World):Prop:=Calls Tryz.prog f #[.pointer (some ⟨b,0,none⟩)] W fun e w'=>∃ v,e=.returned v∧ErrW z v∧Below W.heap.size W w'
section
variable (b:Nat) (bk:Value) (q:Qy) (vv nv mv pv:Value) (W:World) (h:AB W b bk q vv nv mv pv)
include h
theorem schemas_any (a:Option Addr) (ns cs:Nat) (Q:Nat→Sch) (hbk:bk=.slice a ns cs) (hS:Schs W a ns Q):Says 63 b (if bookZ ns Q=0 then 0 else 1) W:=by
 subst hbk
 have c0:=h.book
 have C:=book_any a ns cs Q W hS
 unfold Says
 by_cases hz:bookZ ns Q=0
 · rw [hz] at C
   rw [if_pos hz]
   clear hS h hz
   go_enter Tryz.func63,Tryz.ntmps63
   go_wp2_with (first
    | (go_at_call 112;refine C.mono ?_;rintro e w1 ⟨rfl,hB1⟩)
    | (go_at_call 111;refine (refusedIf_any false 1 _).mono ?_;rintro e w2 ⟨rfl,rfl⟩))
   go_ret
   exact ⟨_,rfl,.inl ⟨rfl,rfl⟩,hB1⟩
 · have t:(bookZ ns Q != 0)=true:=by simpa using hz
   rw [if_neg hz]
   clear hS h hz
   go_enter Tryz.func63,Tryz.ntmps63
   go_wp2_with (first
    | (go_at_call 112;refine C.mono ?_;rintro e w1 ⟨rfl,hB1⟩)
    | (go_at_call 111;refine (refusedIf_any true 1 _).mono ?_;rintro e w2 ⟨rfl,rfl⟩))
   go_ret
   exact ⟨_,rfl,.inr ⟨by decide,.base 1,rfl,rfl⟩,hB1⟩
theorem clauses_any (hQ:IsQ W q) (hok:QOk q) (hsm:q.bulk≤1048576):Says 64 b (chkQ q) W:=by
 obtain ⟨d1,d2,d3,d4,d5,d6⟩:=h.node.at1
 obtain ⟨d7,d8,d9,d10,d11⟩:=h.rest
 have C:=checkQ_any q W hQ hok hsm
 unfold Says
 clear hQ hok hsm h
 go_enter Tryz.func64,Tryz.ntmps64
 go_wp2_with (first
  | (go_at_call 15;refine C.mono ?_;rintro e w1 ⟨rfl,hB1⟩)
  | (go_at_call 113;refine (refused_any _ _).mono ?_;rintro e w2 ⟨rfl,rfl⟩))
 go_ret
 exact ⟨_,rfl,errW_of _,hB1⟩
theorem pattern_any (hX:IsP W q.p) (hok:POk q.p) (hsm:q.p.size≤1048576):Calls Tryz.prog 65 #[.pointer (some ⟨b,0,none⟩)] W fun e w'=>∃ z v,MadeZ q.p z∧e=.returned v∧ErrW z v∧Below W.heap.size W w':=by
 obtain ⟨d1,d2,d3,d4,d5,d6⟩:=h.node.at1
 have C:=madeP_any q.p W hX hsm hok
 clear hX hok hsm h
 go_enter Tryz.func65,Tryz.ntmps65
 go_wp2_with (first
  | (go_at_call 16;refine C.mono ?_;rintro e w1 ⟨z,rfl,hz,hB1⟩)
  | (go_at_call 113;refine (refused_any _ _).mono ?_;rintro e w2 ⟨rfl,rfl⟩))
 go_ret
 exact ⟨_,_,hz,rfl,errW_of _,hB1⟩
theorem tailW_any (hX:IsP W q.p) (hsm:q.p.size≤1048576):Calls Tryz.prog 66 #[.pointer (some ⟨b,0,none⟩)] W fun e w'=>∃ z v,(z=4 ∨ z=0)∧(z=4 ↔ (∃ i,HasTail q.p i)∧q.win=0)∧e=.returned v∧ErrW z v∧Below W.heap.size W w':=by
 obtain ⟨d1,d2,d3,d4,d5,d6⟩:=h.node.at1
 have hAB:=h
 by_cases hT:∃ i,HasTail q.p i
 · obtain ⟨i,hi⟩:=hT
   have C:=tail_yes q.p i W hX hsm hi
   have HI:=hid hi
   have HAB:=hid hAB
   by_cases hw:q.win=0
   · have tw:(q.win == 0)=true:=by simp [hw]
     have HW:=hid hw
     clear hX hsm h hAB hi hw
     go_enter Tryz.func66,Tryz.ntmps66
     go_wp2_with (first
      | (go_at_call 19;refine C.mono ?_;rintro e w1 ⟨y,rfl,-,-,-,hB1⟩;obtain ⟨D,V,hD,hDb,hDV,hDB,hDn,hDs⟩:=boxP_put y w1;obtain ⟨⟨g0,g1,g2,g3,g4,g5⟩,f0,f1,f2,f3,f4,f5⟩:=zero_cells hDb;obtain ⟨-,-,-,k10,-⟩:=((HAB.out.later hB1).later hDB).rest;have HV:Hid (Below W.heap.size W V):=hB1.trans (hDB.mono hB1.size);clear hDb hDn hDs hDB)
      | (go_at_call 111;refine (refusedIf_any true 4 _).mono ?_;rintro e w2 ⟨rfl,rfl⟩))
     go_ret
     exact ⟨4,_,.inl rfl,⟨fun _=>⟨⟨i,HI.out⟩,HW.out⟩,fun _=>rfl⟩,rfl,.inr ⟨by decide,.base 4,rfl,rfl⟩,HV.out⟩
   · have tw:(q.win == 0)=false:=by simp [hw]
     have HW:=hid hw
     clear hX hsm h hAB hi hw
     go_enter Tryz.func66,Tryz.ntmps66
     go_wp2_with (first
      | (go_at_call 19;refine C.mono ?_;rintro e w1 ⟨y,rfl,-,-,-,hB1⟩;obtain ⟨D,V,hD,hDb,hDV,hDB,hDn,hDs⟩:=boxP_put y w1;obtain ⟨⟨g0,g1,g2,g3,g4,g5⟩,f0,f1,f2,f3,f4,f5⟩:=zero_cells hDb;obtain ⟨-,-,-,k10,-⟩:=((HAB.out.later hB1).later hDB).rest;have HV:Hid (Below W.heap.size W V):=hB1.trans (hDB.mono hB1.size);clear hDb hDn hDs hDB)
      | (go_at_call 111;refine (refusedIf_any false 4 _).mono ?_;rintro e w2 ⟨rfl,rfl⟩))
     go_ret
     exact ⟨0,_,.inr rfl,⟨fun h=>absurd h (by decide),fun h=>absurd h.2 HW.out⟩,rfl,.inl ⟨rfl,rfl⟩,HV.out⟩
 · have C:=tail_no q.p W hX (fun i hi=>hT ⟨i,hi⟩)
   have HT:=hid hT
   have HAB:=hid hAB
   clear hX hsm h hAB hT
   go_enter Tryz.func66,Tryz.ntmps66
   go_wp2_with (first
    | (go_at_call 19;refine C.mono ?_;rintro e w1 ⟨rfl,hB1⟩;obtain ⟨D,V,hD,hDb,hDV,hDB,hDn,hDs⟩:=boxP_put .nil w1;obtain ⟨⟨g0,g1,g2,g3,g4,g5⟩,f0,f1,f2,f3,f4,f5⟩:=zero_cells hDb;have HV:Hid (Below W.heap.size W V):=hB1.trans (hDB.mono hB1.size);clear hDb hDn hDs hDB)
    | (go_at_call 111;refine (refusedIf_any false 4 _).mono ?_;rintro e w2 ⟨rfl,rfl⟩))
   go_ret
   exact ⟨0,_,.inr rfl,⟨fun h=>absurd h (by decide),fun h=>absurd h.1 HT.out⟩,rfl,.inl ⟨rfl,rfl⟩,by have h9:=HV.out;rw [← hDV] at h9;exact h9⟩
end
open Go.Shelf
attribute [local go_sem] Oper.semAt_some
abbrev downWV (By Bd:Nat):Value:=.func (.func 90) #[] #[.pointer (some ⟨By,0,none⟩),.pointer (some ⟨Bd,0,none⟩)]
theorem downW_any {ι:Type} (l By Bd:Nat) (kids:ι→Nat) (kid:ι→Nat→ι) (rank:ι→Nat)
 (Mid Gone:ι→World→Option Addr→Nat→Nat→World→Prop) (Post:ι→World→World→Prop)
 (hrank:∀ v i,i < kids v→rank (kid v i) < rank v)
 (hdr:∀ v W a cap i Wi,Mid v W a cap i Wi→Mid v W a cap i Wi.drew)
 (hL:∀ v W a cap i Wi,Mid v W a cap i Wi→kids v≤9223372036854775807∧Wi.cell? ⟨By,0,none⟩=some (.func (.yield l) #[] #[]))
 (hY:∀ v W a cap i Wi,Mid v W a cap i Wi→i < kids v→∃ b o,a=some ⟨b,o,none⟩∧YieldAt Fence.wide 0 Tryz.prog l #[.pointer (some ⟨b,o+i * 6,none⟩)] Wi fun e W'=>e=.returned (.bool true)∧Gone v W a cap i W')
 (hC:∀ v W a cap i Wi,Gone v W a cap i Wi→∃ b o a' cap',a=some ⟨b,o,none⟩∧Wi.cell? ⟨b,o+i * 6+5,none⟩=some (.slice a' (kids (kid v i)) cap')∧Wi.cell? ⟨Bd,0,none⟩=some (downWV By Bd)∧Mid (kid v i) Wi a' cap' 0 Wi ∧
   (∀ W',Post (kid v i) Wi W'→Mid v W a cap (i+1) W'))
 (hE:∀ v W a cap Wi,Mid v W a cap (kids v) Wi→Post v W Wi) :
 ∀ (r:Nat) (v:ι),rank v < r→∀ (n:Nat) (a:Option Addr) (cap:Nat) (W:World),Mid v W a cap 0 W →
   CallsIn Fence.wide n Tryz.prog 90 #[.slice a (kids v) cap,.pointer (some ⟨By,0,none⟩),.pointer (some ⟨Bd,0,none⟩)] W fun e W'=>e=.returned (.bool true)∧Post v W W':=by
 intro r
 induction r with
 | zero=>intro v h;omega
 | succ r ih =>
   intro v hv n a cap W hpre
   have hdd:∀ k:Nat,(Fence.wide.depth.isSome=true→1≤k):=fun k h=>by cases h
   obtain ⟨hn0,-⟩:=hL v W a cap 0 W hpre
   refine callsIn_of_wp Tryz.func90 rfl trivial ?_ rfl
   simp only [Tryz.ntmps90,List.size_toArray,List.length_cons,List.length_nil,Nat.reduceAdd,Nat.reduceSub,Array.replicate_succ,Array.replicate_zero,List.push_toArray,List.append_toArray,List.nil_append,List.cons_append]
   gi_wp2
   gi_loopw [8] (fun u wr=>∃ i:Nat,i≤kids v∧u=.int .i64 i∧Mid v W a cap i wr) (fun u _=>kids v - (intOf u).toNat)
   case atStart=>exact ⟨0,Nat.zero_le _,rfl,hpre⟩
   case round =>
    obtain ⟨i,hi,rfl,hmi⟩:=hrel
    by_cases hin:i < kids v
    · have hmd:=hdr v W a cap i wr hmi
      obtain ⟨-,hby⟩:=hL v W a cap i _ hmd
      obtain ⟨b,o,rfl,hyy⟩:=hY v W a cap i _ hmd hin
      obtain ⟨fn,tmps,assign,body,hy,hR⟩:=yield_wide (n - 1) hyy
      clear hyy
      have HQ:=hid hin
      gi_wp2
      gi_region_with (first
       | ((try refine ⟨hdd _,?_⟩);refine hR.mono ?_;clear hR;rintro e W1 ⟨rfl,hm⟩;obtain ⟨b1,o1,a',cap',hab,hc5,hcd,hpk,hpost⟩:=hC v W _ cap i W1 hm;cases hab
          have ihc:=ih (kid v i) (by have:=hrank v i HQ.out;omega) (n - 1) a' cap' W1 hpk)
       | (refine ⟨trivial,hdd _,?_⟩;gi_at_call 90;refine ihc.mono ?_;clear ihc;rintro e W2 ⟨rfl,hj⟩))
      all_goals gi_wp2
      all_goals exact ⟨⟨i+1,HQ.out,by simp,hpost _ hj⟩,by have:=HQ.out;simp [intOf];omega⟩
    · have hin':i=kids v:=by omega
      subst hin'
      gi_wp2
      go_ret
      exact ⟨rfl,hE _ _ _ _ _ hmi⟩
attribute [local go_sem] Oper.semAt_some
def ndP:Pt→List Pt
 | .nil=>[.nil]
 | .mk k s t lo hi a n cap c=>.mk k s t lo hi a n cap c :: catN (fun i=>ndP (c i)) n
theorem ndP_eq (x:Pt):ndP x=x :: catN (fun i=>ndP (x.c i)) x.n:=by cases x <;> rfl
def ndF (f:Pt):List Pt:=catN (fun i=>ndP (f.c i)) f.n
theorem nodesW_in (n:Nat) (v:Value) (w:World) (hv:v.oneCell'=true) :
 CallsIn Fence.wide n Tryz.prog 35 #[v] w fun e w'=>e=.returned (.func (.func 89) #[] #[.pointer (some ⟨w.heap.size,0,none⟩)])∧w'=w.alloc (.cells #[v] 23):=by
 refine callsIn_of_wp Tryz.func35 rfl trivial ?_ rfl
 simp only [Tryz.ntmps35,List.size_toArray,List.length_cons,List.length_nil,Nat.reduceAdd,Nat.reduceSub,Array.replicate_succ,Array.replicate_zero,List.push_toArray,List.append_toArray,List.nil_append,List.cons_append]
 gi_wp2
 go_ret
 exact ⟨rfl,rfl⟩
theorem nodesW1_in (n l Bp:Nat) (a:Option Addr) (m cap:Nat) (W:World) (R:World→Prop) (hBp:W.cell? ⟨Bp,0,none⟩=some (.slice a m cap))
 (hdown:∀ W2,Boxed W2 W.heap.size 98 (.func (.yield l) #[] #[])→Boxed W2 (W.heap.size+1) 150 (downWV W.heap.size (W.heap.size+1))→Below W.heap.size W W2→W2.heap.size=W.heap.size+2 →
   CallsIn Fence.wide (n - 1) Tryz.prog 90 #[.slice a m cap,.pointer (some ⟨W.heap.size,0,none⟩),.pointer (some ⟨W.heap.size+1,0,none⟩)] W2 fun e W'=>e=.returned (.bool true)∧R W') :
 CallsIn Fence.wide n Tryz.prog 89 #[.func (.yield l) #[] #[],.pointer (some ⟨Bp,0,none⟩)] W fun e W'=>(∃ v,e=.returned v)∧R W':=by
 have hdd:∀ k:Nat,(Fence.wide.depth.isSome=true→1≤k):=fun k h=>by cases h
 have h1:Boxed (W.alloc (.cells #[.func (.yield l) #[] #[]] 98)) W.heap.size 98 (.func (.yield l) #[] #[]):=Boxed.new _ _ _
 have hlt:Bp < W.heap.size:=by
  obtain ⟨ob,ho,-⟩:=cells_of_cell hBp
  exact (Array.getElem?_eq_some_iff.1 ho).1
 obtain ⟨A,hA⟩:∃ A,(W.alloc (.cells #[.func (.yield l) #[] #[]] 98)).alloc (.cells #[.nilFunc] 150)=A:=⟨_,rfl⟩
 have b1:Boxed A W.heap.size 98 (.func (.yield l) #[] #[]):=hA ▸ h1.alloc _
 have b2:Boxed A (W.heap.size+1) 150 .nilFunc:=by
  have:=Boxed.new (W.alloc (.cells #[.func (.yield l) #[] #[]] 98)) 150 .nilFunc
  rw [World.size_alloc,hA] at this
  exact this
 have hB:Below W.heap.size W A:=by rw [← hA];exact ((Below.refl _ W).alloc (Nat.le_refl _) _).alloc (by simp) _
 have hsz:A.heap.size=W.heap.size+2:=by rw [← hA];simp
 have c2:=b2.cell
 have f2:=b2.frozen
 have b3:=b2.set (downWV W.heap.size (W.heap.size+1))
 have b4:=b1.other (show W.heap.size ≠ W.heap.size+1 by omega) (downWV W.heap.size (W.heap.size+1))
 have hB3:Below W.heap.size W (A.setCell ⟨W.heap.size+1,0,none⟩ (downWV W.heap.size (W.heap.size+1))):=hB.setCell (p:=⟨W.heap.size+1,0,none⟩) (by simp) _
 have c3:=b3.cell
 have cp:=(hB3.cell (p:=⟨Bp,0,none⟩) hlt).trans hBp
 have hd:=hdown _ b4 b3 hB3 (by rw [World.size_setCell];exact hsz)
 clear hdown
 refine callsIn_of_wp Tryz.func89 rfl trivial ?_ rfl
 simp only [Tryz.ntmps89,List.size_toArray,List.length_cons,List.length_nil,Nat.reduceAdd,Nat.reduceSub,Array.replicate_succ,Array.replicate_zero,List.push_toArray,List.append_toArray,List.nil_append,List.cons_append]
 gi_wp2_with (refine ⟨trivial,hdd _,?_⟩;gi_at_call 90;refine hd.mono ?_;rintro e W3 ⟨rfl,hr⟩)
 go_end0
 exact ⟨⟨_,rfl⟩,hr⟩
structure VisW where
 b:Nat
 o:Nat
 y:Pt
 pre:List Pt
theorem nodesW_fold {n:Nat} {g:Operand} {ps:Array Tmp} {assign body:Code} {Q:Exit→Act→World→Prop} {a:Act} {w:World} (Bp:Nat) (f:Pt) (T:Nat→Prop) (J:List Pt→World→Prop)
 (hg:a.eval g=.func (.func 89) #[] #[.pointer (some ⟨Bp,0,none⟩)]) (hps:ps.size=1) (hBp:w.cell? ⟨Bp,0,none⟩=some (.slice f.a f.n f.cap))
 (hT:∀ k,T k→k < w.heap.size) (hX:PT T w f)
 (hJ:∀ pre W A,Ag w.heap.size W A→J pre W→J pre A) (hJd:∀ pre W,J pre W→J pre W.drew) (h0:∀ W,Below w.heap.size w W→J [] W)
 (a₁:Nat→Nat→Act)
 (hassign:∀ (l b o:Nat) (W:World) (K:Act→World→Prop),K (a₁ b o) W →
   assign.wpIn (Fence.wide.inRound l) (n - 1 - 1) Tryz.prog (Exit.then K (fun _ _ _=>False)) { tmps:=(ps.zip #[.pointer (some ⟨b,o,none⟩)]).foldl (fun t (p,v)=>t.setIfInBounds p v) a.tmps,defers:=[] } W)
 (hbody:∀ (l b o:Nat) (y:Pt) (pre:List Pt) (W:World),T b→NodeP W b o y→PT T W y→J pre W→w.heap.size+4≤W.heap.size→(∃ post,pre ++ y :: post=ndF f) →
   body.wpIn (Fence.wide.inRound l) (n - 1 - 1) Tryz.prog (foldPost w.heap.size (fun k=>T k ∨ k=w.heap.size+2 ∨ k=w.heap.size+3) (J (pre ++ [y])) (fun _ _=>False) W) (a₁ b o) W)
 (hdone:∀ (D:Nat) (W:World),w.heap.size≤D→J (ndF f) W→W.heap[D]? = some (.deferred (some []))→Q .normal { a with defers:={ target:=.collected D,args:=#[] } :: a.defers } W) :
 (Code.rangeFunc g ps assign body).wpIn Fence.wide n Tryz.prog Q a w:=by
 obtain ⟨T',hT'⟩:∃ T':Nat→Prop,T'=fun k=>T k ∨ k=w.heap.size+2 ∨ k=w.heap.size+3:=⟨_,rfl⟩
 have tT:∀ k,T k→T' k:=fun k hk=>by rw [hT'];exact .inl hk
 refine wpIn_range (α:=VisW) hg (enters_of Tryz.func89 (by kernel_rfl) rfl) (encs:=fun v=>#[.pointer (some ⟨v.b,v.o,none⟩)]) (fun _=>hps.symm)
  (fun v W=>T v.b∧NodeP W v.b v.o v.y∧PT T W v.y∧J v.pre W∧w.heap.size+4≤W.heap.size∧∃ post,v.pre ++ v.y :: post=ndF f)
  (fun v W W'=>Kp T' W W'∧J (v.pre ++ [v.y]) W'∧w.heap.size+4≤W'.heap.size)
  (fun _ _ _ _=>False) (J (ndF f)) (fun _ _=>False) ?_ ?_ (fun _ _ _ _ _ _ _ _ h=>h) (fun W A h=>hJ _ W A h) (fun _ _ _ _ h=>h) (fun v=>a₁ v.b v.o) (fun l v W K hK=>hassign l v.b v.o W K hK) ?_ ?_ hdone (fun _ _ _ _ h _=>h.elim)
 · rintro v W A hag ⟨h1,h2,h3,h4,h5,h6⟩
   exact ⟨h1,h2.ag hag,h3.of fun p v h=>(hag.cell p).trans h,hJ _ _ _ hag h4,by rw [hag.size];exact h5,h6⟩
 · rintro v W A A' W' hag hag' ⟨h1,h2,h3⟩
   exact ⟨Kp.ag hag hag' h1,hJ _ _ _ hag' h2,by rw [hag'.size];exact h3⟩
 · rintro l v W ⟨h1,h2,h3,h4,h5,h6⟩ _
   refine wpIn_mono (hbody l v.b v.o v.y v.pre W h1 h2 h3 h4 h5 h6) ?_
   rintro e a3 W3 hp
   cases e with
   | normal=>exact ⟨hp.1,by rw [hT'];exact hp.2.1,hp.2.2,Nat.le_trans h5 hp.1.size⟩
   | ret=>exact hp
   | exit id=>exact hp
   | goto t=>exact hp
   | panic ch=>exact hp.elim
   | outgrown=>exact hp.elim
 · intro l Rec RecX W1 hB1 hs1 hrec1 hrec hrecx hY
   have hkT:Kp T w W1:=Kp.of_below hB1 hT
   have hlt:Bp < w.heap.size:=by
    obtain ⟨ob,ho,-⟩:=cells_of_cell hBp
    exact (Array.getElem?_eq_some_iff.1 ho).1
   refine (nodesW1_in (n - 1) l Bp f.a f.n f.cap W1 (fun W'=>J (ndF f) W'∧Rec W') ((hB1.cell (p:=⟨Bp,0,none⟩) hlt).trans hBp) ?_).mono ?_
   · intro W2 by2 bd2 hB2 hs2
     have key:=downW_any (ι:=Pt × List Pt) l W1.heap.size (W1.heap.size+1) (fun v=>v.1.n) (fun v i=>(v.1.c i,v.2 ++ (catN (fun i=>ndP (v.1.c i)) i ++ [v.1.c i]))) (fun v=>v.1.size)
      (fun v W a cap i Wi=>a=v.1.a∧cap=v.1.cap∧PT T Wi v.1∧J (v.2 ++ catN (fun i=>ndP (v.1.c i)) i) Wi∧Rec Wi ∧
        Boxed Wi W1.heap.size 98 (.func (.yield l) #[] #[])∧Boxed Wi (W1.heap.size+1) 150 (downWV W1.heap.size (W1.heap.size+1))∧w.heap.size+4≤Wi.heap.size∧Kp T' W Wi∧∃ post,v.2 ++ (ndF v.1 ++ post)=ndF f)
      (fun v W a cap i Wi=>a=v.1.a∧cap=v.1.cap∧i < v.1.n∧PT T Wi v.1∧J (v.2 ++ (catN (fun i=>ndP (v.1.c i)) i ++ [v.1.c i])) Wi∧Rec Wi ∧
        Boxed Wi W1.heap.size 98 (.func (.yield l) #[] #[])∧Boxed Wi (W1.heap.size+1) 150 (downWV W1.heap.size (W1.heap.size+1))∧w.heap.size+4≤Wi.heap.size∧Kp T' W Wi∧∃ post,v.2 ++ (ndF v.1 ++ post)=ndF f)
      (fun v W W'=>J (v.2 ++ ndF v.1) W'∧Rec W'∧Kp T' W W'∧w.heap.size+4≤W'.heap.size)
      (fun v i hi=>Pt.size_part v.1 i hi) ?_ ?_ ?_ ?_ ?_ (f.size+1) (f,[]) (by simp) (n - 1 - 1) f.a f.cap W2 ?_
     · refine key.mono ?_
       rintro e W' ⟨rfl,h1,h2,-⟩
       exact ⟨rfl,by simpa using h1,h2⟩
     · rintro ⟨y,pre⟩ W a cap i Wi ⟨rfl,rfl,h1,h2,h3,h4,h5,h6,h7,h8⟩
       exact ⟨rfl,rfl,PT.of (W:=Wi) (W':=Wi.drew) (fun _ _ h=>h) h1,hJd _ _ h2,hrec Wi Wi.drew ⟨Nat.le_refl _,fun _ _ _ h _=>h⟩ h3,h4,h5,h6,h7,h8⟩
     · rintro ⟨y,pre⟩ W a cap i Wi ⟨rfl,rfl,h1,h2,h3,h4,h5,h6,h7,h8⟩
       have:=(pT_eq _ _ _).1 h1
       simp only at this
       exact ⟨by simp only;omega,h4.cell⟩
     · rintro ⟨y,pre⟩ W a cap i Wi ⟨rfl,rfl,h1,h2,h3,h4,h5,h6,h7,post,hpo⟩ hi
       obtain ⟨b',o',ea,hb',hn',hx'⟩:=((pT_eq _ _ _).1 h1).2.2 i hi
       obtain ⟨r,hr⟩:=catN_split (fun i=>ndP (y.c i)) hi
       refine ⟨b',o',ea,YieldAt.mono (hY 0 ⟨b',o'+i * 6,y.c i,pre ++ catN (fun i=>ndP (y.c i)) i⟩ Wi ⟨hb',hn',hx',h2,h6,?_⟩ h3) ?_⟩
       · refine ⟨catN (fun j=>ndP ((y.c i).c j)) (y.c i).n ++ (r ++ post),?_⟩
         simp only at hpo
         rw [← hpo,ndF,hr,ndP_eq (y.c i)]
         simp
       · rintro e W' (⟨rfl,⟨k1,k2,k3⟩,k4,-⟩ | ⟨rfl,c,k1,k2⟩)
         · have kT:Kp T Wi W':=k1.mono tT
           exact ⟨rfl,rfl,rfl,hi,h1.kept kT,by simpa using k2,k4,k1.boxed (by rw [hT'];exact .inr (.inl (by omega))) h4,k1.boxed (by rw [hT'];exact .inr (.inr (by omega))) h5,k3,h7.trans k1,post,hpo⟩
         · exact k1.elim
     · rintro ⟨y,pre⟩ W a cap i Wi ⟨rfl,rfl,hi,h1,h2,h3,h4,h5,h6,h7,post,hpo⟩
       obtain ⟨b',o',ea,hb',hn',hx'⟩:=((pT_eq _ _ _).1 h1).2.2 i hi
       obtain ⟨r,hr⟩:=catN_split (fun i=>ndP (y.c i)) hi
       refine ⟨b',o',(y.c i).a,(y.c i).cap,ea,hn'.2.2.2.2.2,h5.cell,⟨rfl,rfl,hx',by simpa [catN] using h2,h3,h4,h5,h6,Kp.refl _ _,r ++ post,?_⟩,?_⟩
       · simp only at hpo ⊢
         rw [← hpo,ndF,ndF,hr,ndP_eq (y.c i)]
         simp
       · rintro W' ⟨k1,k2,k3,k4⟩
         have kk:Kp T' Wi W':=k3
         have kT:Kp T Wi W':=kk.mono tT
         refine ⟨rfl,rfl,h1.kept kT,?_,k2,kk.boxed (by rw [hT'];exact .inr (.inl (by omega))) h4,kk.boxed (by rw [hT'];exact .inr (.inr (by omega))) h5,k4,h7.trans kk,post,hpo⟩
         have:J (pre ++ (catN (fun i=>ndP (y.c i)) i ++ [y.c i]) ++ ndF (y.c i)) W':=k1
         rw [catN,ndP_eq (y.c i)]
         simpa [ndF] using this
     · rintro ⟨y,pre⟩ W a cap Wi ⟨rfl,rfl,h1,h2,h3,h4,h5,h6,h7,h8⟩
       exact ⟨h2,h3,h7,h6⟩
     · have hB:Below w.heap.size w W2:=hB1.trans (hB2.mono (by omega))
       have kT:Kp T w W2:=Kp.of_below hB hT
       refine ⟨rfl,rfl,hX.kept kT,by simpa [catN] using h0 W2 hB,hrec W1 W2 ⟨by omega,fun k o hk ho _=>?_⟩ hrec1,by2,bd2,by omega,Kp.refl _ _,[],by simp⟩
       exact (hB2.block k ((Array.getElem?_eq_some_iff.1 ho).1)).trans ho
   · rintro e W' ⟨⟨v,rfl⟩,h1,h2⟩
     exact ⟨⟨_,rfl⟩,.inl ⟨h1,h2⟩⟩
attribute [local go_sem] Oper.semAt_some
theorem Ag.owning {B:Nat} {W A:World} (h:Ag B W A) {b e k m:Nat} {v:Value} {xs:List Value} (ho:W.ownsRow b e k v m xs):A.ownsRow b e k v m xs:=by
 refine ⟨ho.1,?_⟩
 rcases ho.2 with h2 | ⟨g,cap,cur,e1,hg,h3,h4⟩
 · exact .inl h2
 · exact .inr ⟨g,cap,cur,e1,hg,(h.cells _ _ rfl).2 h3,h4⟩
theorem owns_low {w:World} {B B' e k n:Nat} {v:Value} {xs:List Value} (h:w.ownsRow B e k v n xs) (hB:B'≤B):w.ownsRow B' e k v n xs:=by
 refine ⟨h.1,?_⟩
 rcases h.2 with h2 | ⟨g,cap,cur,e1,hg,h3⟩
 · exact .inl h2
 · exact .inr ⟨g,cap,cur,e1,Nat.le_trans hB hg,h3⟩
theorem row_slice {w:World} {base e k n:Nat} {v:Value} {xs:List Value} (h:w.ownsRow base e k v n xs):∃ a cap,v=.slice a n cap:=by
 rcases h.2 with ⟨e1,e2⟩ | ⟨g,cap,cur,e,_⟩
 · exact ⟨none,0,by rw [e1,e2]⟩
 · exact ⟨_,cap,e⟩
theorem row_cell {w:World} {base e n cap:Nat} {a:Option Addr} {xs:List Value} (h:w.ownsRow base e 1 (.slice a n cap) n xs) {i:Nat} (hi:i < n):∃ g,a=some ⟨g,0,none⟩∧base≤g∧g < w.heap.size∧w.cell? ⟨g,i,none⟩=xs[i]?:=by
 rcases h.2 with ⟨e1,e2⟩ | ⟨g,cap',cur,e,hb,hg,hle,hm,hsz,ht⟩
 · omega
 · injection e with e1
   refine ⟨g,e1,hb,(Array.getElem?_eq_some_iff.1 hg).1,?_⟩
   rw [← ht,List.getElem?_take_of_lt (by omega)]
   simp [World.cell?,hg]
def ofK (k:Int) (l:List Pt):List ByteArray:=(l.filter fun y=>decide (y.k=k)).map (·.s)
theorem ofK_hit (k:Int) (l:List Pt) (y:Pt) (h:y.k=k):ofK k (l ++ [y])=ofK k l ++ [y.s]:=by simp [ofK,h]
theorem ofK_miss (k:Int) (l:List Pt) (y:Pt) (h:¬ y.k=k):ofK k (l ++ [y])=ofK k l:=by simp [ofK,h]
theorem ofK_len (k:Int) (l:List Pt):(ofK k l).length≤l.length:=by
 unfold ofK
 rw [List.length_map]
 exact List.length_filter_le _ _
theorem length_ndP:∀ x:Pt,(ndP x).length=x.size:=by
 refine Pt.ind fun x ih=>?_
 have key:∀ m,m≤x.n→(catN (fun i=>ndP (x.c i)) m).length=sumN (fun i=>(x.c i).size) m:=by
  intro m
  induction m with
  | zero=>intro _;rfl
  | succ m ihm=>intro hm;simp only [catN,sumN,List.length_append];rw [ihm (by omega),ih m (by omega)]
 rw [ndP_eq,List.length_cons,key _ (Nat.le_refl _),x.size_eq]
 omega
def one1 (x:Pt) (b:Nat):Pt:=.mk 0 ⟨#[]⟩ ⟨#[]⟩ 0 0 (some ⟨b,0,none⟩) 1 1 (fun _=>x)
theorem ndF_one (x:Pt) (b:Nat):ndF (one1 x b)=ndP x:=by simp [ndF,one1,Pt.n,Pt.c,catN]
theorem varsOf_in (n:Nat) (x:Pt) (k:Int) (w:World) (hX:IsP w x) (hsm:x.size≤1048576) :
 CallsIn Fence.wide n Tryz.prog 115 #[x.val,.int .i64 k] w fun e w'=>∃ v,e=.returned v∧w'.ownsRow w.heap.size 9 1 v (ofK k (ndP x)).length (cellsS (ofK k (ndP x)))∧Below w.heap.size w w':=by
 have hdd:∀ k:Nat,(Fence.wide.depth.isSome=true→1≤k):=fun k h=>by cases h
 obtain ⟨i0,hi,hz0,hz1,hz2⟩:=info_parts infoS
 refine callsIn_of_wp_marks Tryz.func115 rfl trivial ?_ rfl
 simp only [Tryz.ntmps115,List.size_toArray,List.length_cons,List.length_nil,Nat.reduceAdd,Nat.reduceSub,Array.replicate_succ,Array.replicate_zero,List.push_toArray,List.append_toArray,List.nil_append,List.cons_append]
 gi_wp2_with (refine ⟨trivial,hdd _,?_⟩;gi_at_call 35;refine (nodesW_in _ _ _ rfl).mono ?_;rintro e w' ⟨rfl,rfl⟩)
 obtain ⟨A,hA⟩:∃ A,((((w.alloc (.cells x.cells 25)).alloc (.cells #[.int .i64 k] 3)).alloc (.cells #[.slice none 0 0] 37)).alloc (.cells x.cells 25)).alloc (.cells #[.slice (some ⟨w.heap.size+1+1+1,0,none⟩) 1 1] 23)=A:=⟨_,rfl⟩
 have hsz:A.heap.size=w.heap.size+5:=by rw [← hA];simp
 have hB:Below w.heap.size w A:=by rw [← hA];exact ((((nwB w _).alloc (by simp) _).alloc (by simp;omega) _).alloc (by simp;omega) _).alloc (by simp;omega) _
 have hbk:Boxed A (w.heap.size+1) 3 (.int .i64 k):=by
  have:=(((Boxed.new (w.alloc (.cells x.cells 25)) 3 (.int .i64 k)).alloc (.cells #[.slice none 0 0] 37)).alloc (.cells x.cells 25)).alloc (.cells #[.slice (some ⟨w.heap.size+1+1+1,0,none⟩) 1 1] 23)
  rw [World.size_alloc,hA] at this
  exact this
 have hbn:Boxed A (w.heap.size+2) 37 (.slice none 0 0):=by
  have:=((Boxed.new ((w.alloc (.cells x.cells 25)).alloc (.cells #[.int .i64 k] 3)) 37 (.slice none 0 0)).alloc (.cells x.cells 25)).alloc (.cells #[.slice (some ⟨w.heap.size+1+1+1,0,none⟩) 1 1] 23)
  rw [World.size_alloc,World.size_alloc,hA] at this
  exact this
 have hnode:NodeP A (w.heap.size+3) 0 x:=by
  have:=(nodeP_new (((w.alloc (.cells x.cells 25)).alloc (.cells #[.int .i64 k] 3)).alloc (.cells #[.slice none 0 0] 37)) 25 x).later ((Below.refl _ _).alloc (Nat.le_refl _) (.cells #[.slice (some ⟨w.heap.size+1+1+1,0,none⟩) 1 1] 23))
  rw [World.size_alloc,World.size_alloc,World.size_alloc,hA] at this
  exact this
 have hbp:Boxed A (w.heap.size+4) 23 (.slice (some ⟨w.heap.size+1+1+1,0,none⟩) 1 1):=by
  have:=Boxed.new ((((w.alloc (.cells x.cells 25)).alloc (.cells #[.int .i64 k] 3)).alloc (.cells #[.slice none 0 0] 37)).alloc (.cells x.cells 25)) 23 (.slice (some ⟨w.heap.size+1+1+1,0,none⟩) 1 1)
  rw [World.size_alloc,World.size_alloc,World.size_alloc,World.size_alloc,hA] at this
  exact this
 rw [hA]
 have hX1:PT (fun k=>k < w.heap.size ∨ k=w.heap.size+3) A (one1 x (w.heap.size+3)):=by
  refine (pT_eq _ _ _).2 ⟨Nat.le_refl _,by simp [one1,Pt.cap],fun i hi=>⟨w.heap.size+3,0,rfl,.inr rfl,?_,PIn.xt (n:=w.heap.size) (fun k hk=>.inl hk) (hX.inn.below hB)⟩⟩
  obtain rfl:i=0:=by simp only [one1,Pt.n] at hi;omega
  exact hnode
 have hlen:=length_ndP x
 refine nodesW_fold (w.heap.size+1+1+1+1) (one1 x (w.heap.size+3)) (fun k=>k < w.heap.size ∨ k=w.heap.size+3)
  (fun pre W=>(∃ v,Boxed W (w.heap.size+2) 37 v∧W.ownsRow (w.heap.size+9) 9 1 v (ofK k pre).length (cellsS (ofK k pre)))∧Below w.heap.size w W∧Boxed W (w.heap.size+1) 3 (.int .i64 k))
  rfl rfl hbp.cell (fun k hk=>by omega) hX1 ?_ ?_ ?_
  (fun b o=>{ tmps:=#[x.val,.int .i64 k,.pointer (some ⟨w.heap.size,0,none⟩),.pointer (some ⟨w.heap.size+1,0,none⟩),.slice none 0 0,.pointer (some ⟨w.heap.size+1+1,0,none⟩),.pointer (some ⟨b,o,none⟩),x.val,.slice (some ⟨w.heap.size+1+1+1,0,none⟩) 1 1,.func (.func 89) #[] #[.pointer (some ⟨w.heap.size+1+1+1+1,0,none⟩)],.pointer (some ⟨b,o,none⟩),undef,undef,undef,undef,undef,undef,undef,undef,undef,undef,undef,undef,undef,undef],defers:=[] }) ?_ ?_ ?_
 · rintro pre W B hag ⟨⟨v,h1,h2⟩,h3,h4⟩
   exact ⟨⟨v,hag.boxed h1,hag.owning h2⟩,hag.below (by omega) h3,hag.boxed h4⟩
 · exact fun pre W h=>⟨h.1,h.2.1.drew,h.2.2⟩
 · exact fun W h=>⟨⟨_,Boxed.kept_of hbn h (by omega),World.ownsRow_nil _ _ _ _⟩,hB.trans (h.mono (by omega)),Boxed.kept_of hbk h (by omega)⟩
 · intro l b o W K hK
   gi_wp2
   first | exact hK | simpa using hK
 · rintro l b o y pre W hb hn hx ⟨⟨v,h1,h2⟩,h3,h4⟩ hs ⟨post,hpo⟩
   have c1:=h1.cell
   have f1:=h1.frozen
   have c4:=h4.cell
   obtain ⟨d0,d1,d2,d3,d4,d5⟩:=hn
   have hpl:=ofK_len k pre
   have hlt:pre.length < 1048576:=by
    have:=congrArg List.length hpo
    rw [ndF_one,List.length_append,List.length_cons] at this
    omega
   clear hpo
   by_cases hk:y.k=k
   · have hk':(y.k == k)=true:=by simpa using hk
     gi_wp2
     refine wpIn_region_round (by kernel_rfl) (by kernel_rfl) (by kernel_rfl) ?_
     repeat (gi_big_quiet_step (fail))
     refine wpQuietIn_nil ?_
     intro _ hw'
     obtain ⟨nq,hw''⟩:=hw'
     subst hw''
     gi_wp2
     obtain ⟨V,hV⟩:∃ V,V=W.drewN nq:=⟨_,rfl⟩
     rw [← hV]
     have BV:Below W.heap.size W V:=by rw [hV];exact ⟨rfl,rfl,rfl,Nat.le_refl _,fun _ _=>rfl⟩
     have KV:KeepsFrom A.heap.size W V:=by rw [hV];exact ⟨Nat.le_refl _,fun _ _ _ h _=>h⟩
     have KpV:∀ T,Kp T W V:=fun T=>by rw [hV];exact fun _ _ _ _ e=>e
     have g1:Boxed V (w.heap.size+2) 37 v:=by rw [hV];exact h1
     have g2:V.ownsRow (w.heap.size+9) 9 1 v (ofK k pre).length (cellsS (ofK k pre)):=by rw [hV];exact h2
     have g3:Below w.heap.size w V:=by rw [hV];exact h3.trans ⟨rfl,rfl,rfl,Nat.le_refl _,fun _ _=>rfl⟩
     have g4:Boxed V (w.heap.size+1) 3 (.int .i64 k):=by rw [hV];exact h4
     have d1:V.cell? ⟨b,o+1,none⟩=some (.string y.s):=by rw [hV];exact d1
     have hVs:A.heap.size+4≤V.heap.size:=by rw [hV];exact hs
     clear hV d0 d2 d3 d4 d5 c1 f1 c4
     have c1:=g1.cell
     have f1:=g1.frozen
     have hr0:(V.alloc (.cells #[.string y.s] 9)).drew.ownsRow (w.heap.size+9) 9 1 v (ofK k pre).length (cellsS (ofK k pre)):=(g2.alloc _).drew
     obtain ⟨v',w1,hrun,hown',hgrow,hnil',hblk⟩:=run_append_own_at (P:=Tryz.prog) (w:=(V.alloc (.cells #[.string y.s] 9)).drew) (w.heap.size+9) 37 37 9 i0 (.string ⟨#[]⟩) 1 16 Tryz.underlying37 hi hz0 hz1 hz2 rfl (by decide) v _ _ hr0 ⟨V.heap.size,0,none⟩ 1 1 [.string y.s] rfl
      (cell_one_new V (.string y.s) 9) (by simp [Value.oneCell']) (by unfold maxLen;omega) (by omega) (by show w.heap.size+9≤(V.alloc _).heap.size;simp;omega)
     obtain ⟨g',cap',rfl⟩:=ownsRow_succ hown'
     have hg':(V.alloc (.cells #[.string y.s] 9)).grownBy w1 v.ownBlock:=⟨hgrow.os,hgrow.tape,hgrow.output,hgrow.size,hgrow.block⟩
     have hv1:Boxed w1 (w.heap.size+2) 37 v:=(g1.alloc _).kept hg' (g1.not_row (by decide) g2)
     have hv4:Boxed w1 (w.heap.size+1) 3 (.int .i64 k):=(g4.alloc _).kept hg' (g4.not_row (by decide) g2)
     have c1':=(g1.alloc (.cells #[.string y.s] 9)).cell
     have c2:=hv1.cell
     have f2:=hv1.frozen
     have fin:foldPost A.heap.size (fun k=>(k < w.heap.size ∨ k=w.heap.size+3) ∨ k=A.heap.size+2 ∨ k=A.heap.size+3) (fun W=>(∃ v,Boxed W (w.heap.size+2) 37 v∧W.ownsRow (w.heap.size+9) 9 1 v (ofK k (pre ++ [y])).length (cellsS (ofK k (pre ++ [y]))))∧Below w.heap.size w W∧Boxed W (w.heap.size+1) 3 (.int .i64 k)) (fun _ _=>False) W .normal ⟨#[],[]⟩ (w1.setCell ⟨w.heap.size+1+1,0,none⟩ (.slice (some ⟨g',0,none⟩) ((ofK k pre).length+1) cap')):=by
      refine ⟨KV.trans ((((KeepsOthers.alloc V _).trans (KeepsOthers.of_grownBy hg' fun j o ej hj=>?_)).trans (KeepsOthers.setCell _ _ _)).from _),(KpV _).trans ?_,⟨_,hv1.set _,?_⟩,?_,hv4.other (by omega) _⟩
      · rcases (g2.alloc _).2 with ⟨rfl,_⟩ | ⟨g,cap,cur,rfl,_,hgb,_⟩
        · simp [Value.ownBlock] at ej
        · obtain rfl:g=j:=by simpa [Value.ownBlock] using ej
          rw [hgb] at hj;cases hj;rfl
      · intro k o hk _ e
        have hkl:k < w.heap.size+9∧k ≠ w.heap.size+2:=by omega
        refine (Below.heap_setCell w1 ⟨w.heap.size+2,0,none⟩ _ k hkl.2).trans ((hg'.block k ?_ (row_ne_low g2 hkl.1)).trans ((Below.heap_alloc V _ k (Array.getElem?_eq_some_iff.1 e).1).trans e))
        have:=(Array.getElem?_eq_some_iff.1 e).1
        simp
        omega
      · rw [ofK_hit _ _ _ hk,List.length_append,cellsS,List.map_append]
        exact hown'.kept (grownBy_setCell' w1 (w.heap.size+2) _) (.inr (hv1.not_row (by decide) hown').symm)
      · refine ((g3.alloc g3.size _).grown hg' (by have:=g3.size;simp;omega) fun j ej=>?_).setCell (p:=⟨w.heap.size+1+1,0,none⟩) (by simp;omega) _
        have:=(g2.lt j ej).1
        omega
     refine wpIn_region_any (by kernel_rfl) ?_
     try (change wpAnyIn _ _ _ _ _ _ _ _ _ (World.drew _))
     refine wpAnyIn_ready (rs:=[0,1]) (by kernel_rfl) (by simp) ?_
     refine AllReadyIn.cons rfl (fun K hK=>?_) ?_
     · go_simp
       refine hK _ _ ?_
       clear hK K
       refine ri 1 fun K hK=>?_
       go_simp
       refine hK _ _ ?_
       clear hK K
       refine ri 2 fun K hK=>?_
       go_simp
       refine hK _ _ ?_
       clear hK K
       refine ri 3 fun K hK=>?_
       go_simp
       refine hK _ _ ?_
       clear hK K
       refine ri 4 fun K hK=>?_
       go_simp
       refine hK _ _ ?_
       clear hK K
       refine ri 5 fun K hK=>?_
       go_simp
       refine hK _ _ ?_
       clear hK K
       refine ri 6 fun K hK=>?_
       rw [if_pos (by rfl)]
       refine wpOpIn_append_run (.tmp 17) (.tmp 22) 37 rfl _ _ _ rfl rfl hrun ?_
       refine hK _ _ ?_
       clear hK K
       refine ri 7 fun K hK=>?_
       go_simp
       refine hK _ _ ?_
       clear hK K
       refine wpAnyIn_done (by kernel_rfl) ?_ _
       exact fin
     refine AllReadyIn.cons rfl (fun K hK=>?_) AllReadyIn.nil
     go_simp
     refine hK _ _ ?_
     clear hK K
     refine wpAnyIn_ready (rs:=[0,2]) (by kernel_rfl) (by simp) ?_
     refine AllReadyIn.cons rfl (fun K hK=>?_) ?_
     · go_simp
       refine hK _ _ ?_
       clear hK K
       refine ri 2 fun K hK=>?_
       go_simp
       refine hK _ _ ?_
       clear hK K
       refine ri 3 fun K hK=>?_
       go_simp
       refine hK _ _ ?_
       clear hK K
       refine ri 4 fun K hK=>?_
       go_simp
       refine hK _ _ ?_
       clear hK K
       refine ri 5 fun K hK=>?_
       go_simp
       refine hK _ _ ?_
       clear hK K
       refine ri 6 fun K hK=>?_
       rw [if_pos (by rfl)]
       refine wpOpIn_append_run (.tmp 17) (.tmp 22) 37 rfl _ _ _ rfl rfl hrun ?_
       refine hK _ _ ?_
       clear hK K
       refine ri 7 fun K hK=>?_
       go_simp
       refine hK _ _ ?_
       clear hK K
       refine wpAnyIn_done (by kernel_rfl) ?_ _
       exact fin
     refine AllReadyIn.cons rfl (fun K hK=>?_) AllReadyIn.nil
     go_simp
     refine hK _ _ ?_
     clear hK K
     refine wpAnyIn_ready (rs:=[0,3]) (by kernel_rfl) (by simp) ?_
     refine AllReadyIn.cons rfl (fun K hK=>?_) ?_
     · go_simp
       refine hK _ _ ?_
       clear hK K
       refine ri 3 fun K hK=>?_
       go_simp
       refine hK _ _ ?_
       clear hK K
       refine ri 4 fun K hK=>?_
       go_simp
       refine hK _ _ ?_
       clear hK K
       refine ri 5 fun K hK=>?_
       go_simp
       refine hK _ _ ?_
       clear hK K
       refine ri 6 fun K hK=>?_
       rw [if_pos (by rfl)]
       refine wpOpIn_append_run (.tmp 17) (.tmp 22) 37 rfl _ _ _ rfl rfl hrun ?_
       refine hK _ _ ?_
       clear hK K
       refine ri 7 fun K hK=>?_
       go_simp
       refine hK _ _ ?_
       clear hK K
       refine wpAnyIn_done (by kernel_rfl) ?_ _
       exact fin
     refine AllReadyIn.cons rfl (fun K hK=>?_) AllReadyIn.nil
     go_simp
     refine hK _ _ ?_
     clear hK K
     refine wpAnyIn_ready (rs:=[0,4]) (by kernel_rfl) (by simp) ?_
     refine AllReadyIn.cons rfl (fun K hK=>?_) ?_
     · go_simp
       refine hK _ _ ?_
       clear hK K
       refine ri 4 fun K hK=>?_
       go_simp
       refine hK _ _ ?_
       clear hK K
       refine ri 5 fun K hK=>?_
       go_simp
       refine hK _ _ ?_
       clear hK K
       refine ri 6 fun K hK=>?_
       rw [if_pos (by rfl)]
       refine wpOpIn_append_run (.tmp 17) (.tmp 22) 37 rfl _ _ _ rfl rfl hrun ?_
       refine hK _ _ ?_
       clear hK K
       refine ri 7 fun K hK=>?_
       go_simp
       refine hK _ _ ?_
       clear hK K
       refine wpAnyIn_done (by kernel_rfl) ?_ _
       exact fin
     refine AllReadyIn.cons rfl (fun K hK=>?_) AllReadyIn.nil
     go_simp
     refine hK _ _ ?_
     clear hK K
     refine wpAnyIn_ready (rs:=[0,5]) (by kernel_rfl) (by simp) ?_
     refine AllReadyIn.cons rfl (fun K hK=>?_) ?_
     · go_simp
       refine hK _ _ ?_
       clear hK K
       refine ri 5 fun K hK=>?_
       go_simp
       refine hK _ _ ?_
       clear hK K
       refine ri 6 fun K hK=>?_
       rw [if_pos (by rfl)]
       refine wpOpIn_append_run (.tmp 17) (.tmp 22) 37 rfl _ _ _ rfl rfl hrun ?_
       refine hK _ _ ?_
       clear hK K
       refine ri 7 fun K hK=>?_
       go_simp
       refine hK _ _ ?_
       clear hK K
       refine wpAnyIn_done (by kernel_rfl) ?_ _
       exact fin
     refine AllReadyIn.cons rfl (fun K hK=>?_) AllReadyIn.nil
     go_simp
     refine hK _ _ ?_
     clear hK K
     refine ri 0 fun K hK=>?_
     go_simp
     refine hK _ _ ?_
     clear hK K
     refine ri 6 fun K hK=>?_
     rw [if_pos (by rfl)]
     refine wpOpIn_append_run (.tmp 17) (.tmp 22) 37 rfl _ _ _ rfl rfl hrun ?_
     refine hK _ _ ?_
     clear hK K
     refine ri 7 fun K hK=>?_
     go_simp
     refine hK _ _ ?_
     clear hK K
     refine wpAnyIn_done (by kernel_rfl) ?_ _
     exact fin
   · have hk':(y.k == k)=false:=by simpa using hk
     gi_wp2
     refine wpIn_region_round (by kernel_rfl) (by kernel_rfl) (by kernel_rfl) ?_
     repeat (gi_big_quiet_step (fail))
     refine wpQuietIn_nil ?_
     intro _ hw'
     obtain ⟨nq,hw''⟩:=hw'
     subst hw''
     gi_wp2
     exact ⟨⟨Nat.le_refl _,fun _ _ _ h _=>h⟩,fun _ _ _ _ e=>e,⟨v,h1,by rw [ofK_miss _ _ _ hk];exact h2⟩,h3.trans ⟨rfl,rfl,rfl,Nat.le_refl _,fun _ _=>rfl⟩,h4⟩
 · rintro D W hD ⟨⟨v,h1,h2⟩,h3,h4⟩ hK
   rw [ndF_one] at h2
   have c1:=h1.cell
   gi_wp2
   refine ⟨by simp,.inl ⟨_,_,rfl,run_takeDeferred hK,?_⟩⟩
   exact ⟨_,results_tmp rfl _ _ _,_,rfl,owns_low (ownsRow_putObj h2 _ hK rfl) (by omega),h3.trans (belowK_b (w:=w) (Nat.le_refl _) W D _ _ (by omega) hK rfl rfl)⟩
def memB (l:List ByteArray) (s:ByteArray):Bool:=l.any fun t=>decide (t=s)
theorem memB_iff {l:List ByteArray} {s:ByteArray}:memB l s=true ↔ s ∈ l:=by
 rw [memB,List.any_eq_true]
 constructor
 · rintro ⟨t,ht,e⟩
   rw [← of_decide_eq_true e];exact ht
 · exact fun h=>⟨s,h,decide_eq_true rfl⟩
theorem mem_atS {l:List ByteArray} {s:ByteArray}:s ∈ l ↔ ∃ j,j < l.length∧atS l j=s:=by
 rw [← lstS_mem,lstS_all]
theorem indexS_any (a:Option Addr) (n cap:Nat) (l:List ByteArray) (s:ByteArray) (w:World) (h:Txs w a n (atS l)) (hl:l.length=n) (hn:n≤9223372036854775807) :
 Calls Tryz.prog 95 #[.slice a n cap,.string s] w fun e w'=>∃ i:Int,e=.returned (.int .i64 i)∧(0≤i ↔ s ∈ l)∧∃ q,w'=w.drewN q:=by
 have HT:=hid h
 have HL:=hid hl
 clear h hl
 go_enter Tryz.func95,Tryz.ntmps95
 go_wp2
 go_loopw [8] (fun u wr=>∃ k:Nat,k≤n∧u=.int .i64 k∧Hid (∀ j,j < k→atS l j ≠ s)∧∃ q,wr=w.drewN q) (fun u _=>n - (intOf u).toNat)
 case atStart=>exact ⟨0,Nat.zero_le _,rfl,fun j hj=>absurd hj (Nat.not_lt_zero _),0,rfl⟩
 case round =>
  obtain ⟨k,hk,rfl,Hne,q,rfl⟩:=hrel
  by_cases hkn:k < n
  · obtain ⟨b,o,rfl,hc⟩:=HT.out (by omega)
    have hck:=hc k hkn
    have hck':∀ q,(w.drewN q).cell? ⟨b,o+k,none⟩=some (.string (atS l k)):=fun q=>hck
    have HK:=hid hkn
    clear hc hck
    by_cases e:atS l k=s
    · have es:=str_yes e
      have es':=str_yes e.symm
      have HE:=hid e
      clear e
      go_wp2
      try go_quiet (fail)
      try go_wp2
      go_ret
      exact ⟨_,rfl,⟨fun _=>mem_atS.2 ⟨k,by rw [HL.out];exact HK.out,HE.out⟩,fun _=>by omega⟩,_,rfl⟩
    · have es:=str_not e
      have es':=str_not (fun h=>e (Eq.symm h))
      have HE:=hid e
      clear e
      go_wp2
      try go_quiet (fail)
      try go_wp2
      go_roundw
      case rel =>
       refine ⟨k+1,HK.out,by simp,fun j hj=>?_,_,rfl⟩
       by_cases ej:j=k
       · rw [ej];exact HE.out
       · exact Hne.out j (by omega)
      case measure=>have:=HK.out;simp [intOf];omega
  · have hkn':k=n:=by omega
    subst hkn'
    go_wp2
    go_ret
    refine ⟨_,rfl,⟨fun h=>absurd h (by decide),fun h=>?_⟩,_,rfl⟩
    obtain ⟨j,hj,e⟩:=mem_atS.1 h
    exact absurd e (Hne.out j (by rw [← HL.out];exact hj))
theorem containsS_any (a:Option Addr) (n cap:Nat) (l:List ByteArray) (s:ByteArray) (w:World) (h:Txs w a n (atS l)) (hl:l.length=n) (hn:n≤9223372036854775807) :
 Calls Tryz.prog 42 #[.slice a n cap,.string s] w fun e w'=>e=.returned (.bool (memB l s))∧∃ q,w'=w.drewN q:=by
 have C:=indexS_any a n cap l s w h hl hn
 clear h hl
 go_enter Tryz.func42,Tryz.ntmps42
 go_wp2_with (go_at_call 95;refine C.mono ?_;rintro e w2 ⟨i,rfl,hi,q,rfl⟩)
 go_ret
 exact ⟨by rw [show memB l s=decide (0≤i) by rw [Bool.eq_iff_iff,memB_iff,← hi,decide_eq_true_eq]];rfl,q,rfl⟩
end Go.Proofs.YtkfpgkohkhhlhaaGreatDoor
