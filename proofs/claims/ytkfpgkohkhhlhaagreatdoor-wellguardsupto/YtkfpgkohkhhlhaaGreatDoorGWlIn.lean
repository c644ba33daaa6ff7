/- Texts that the last one stands on. -/
import Derived.Test.YtkfpgkohkhhlhaaGreatDoorGQryCheck
import Derived.Test.YtkfpgkohkhhlhaaGreatDoorGPatApart
import Derived.Test.YtkfpgkohkhhlhaaGreatDoorGSchBase
import Derived.Deep.QuietTactic
import Derived.Test.YtkfpgkohkhhlhaaGreatDoorRows
import Derived.LaidEql
import Derived.Stop.Asserts
import Derived.RowKitTokens
import Derived.Laws.Rows
set_option maxRecDepth 100000
set_option maxHeartbeats 4000000
namespace Go.Proofs.YtkfpgkohkhhlhaaGreatDoor
open Go.RowKit
def memB (l:List ByteArray) (s:ByteArray):Bool:=l.any fun t=>decide (t = s)
theorem memB_iff {l:List ByteArray} {s:ByteArray}:memB l s = true ↔ s ∈ l:=by
 rw [memB,List.any_eq_true]
 constructor
 · rintro ⟨t,ht,e⟩
   rw [← of_decide_eq_true e];exact ht
 · exact fun h=>⟨s,h,decide_eq_true rfl⟩
theorem mem_atS {l:List ByteArray} {s:ByteArray}:s ∈ l ↔ ∃ j,j < l.length∧atS l j = s:=by
 rw [← lstS_mem,lstS_all]
theorem indexS_any (a:Option Addr) (n cap:Nat) (l:List ByteArray) (s:ByteArray) (w:World) (h:Txs w a n (atS l)) (hl:l.length = n) (hn:n ≤ 9223372036854775807) :
 Calls Tryz.prog 95 #[.slice a n cap,.string s] w fun e w'=>∃ i:Int,e = .returned (.int .i64 i)∧(0 ≤ i ↔ s ∈ l)∧∃ q,w' = w.drewN q:=by
 have HT:=hid h
 have HL:=hid hl
 clear h hl
 go_enter Tryz.func95,Tryz.ntmps95
 go_wp2
 go_loopw [8] (fun u wr=>∃ k:Nat,k ≤ n∧u = .int .i64 k∧Hid (∀ j,j < k→atS l j ≠ s)∧∃ q,wr = w.drewN q) (fun u _=>n - (intOf u).toNat)
 case atStart=>exact ⟨0,Nat.zero_le _,rfl,fun j hj=>absurd hj (Nat.not_lt_zero _),0,rfl⟩
 case round =>
  obtain ⟨k,hk,rfl,Hne,q,rfl⟩:=hrel
  by_cases hkn:k < n
  · obtain ⟨b,o,rfl,hc⟩:=HT.out (by omega)
    have hck:=hc k hkn
    have hck':∀ q,(w.drewN q).cell? ⟨b,o + k,none⟩ = some (.string (atS l k)):=fun q=>hck
    have HK:=hid hkn
    clear hc hck
    by_cases e:atS l k = s
    · have es:=str_yes e
      have es':=str_yes e.symm
      have HE:=hid e
      clear e
      go_wp2
      try go_quiet (fail)
      try go_wp2
      go_ret
      exact ⟨_,rfl,⟨fun _=>mem_atS.2 ⟨k,by rw [HL.out];exact HK.out,HE.out⟩,fun _=>by omega⟩,_,rfl⟩
    · have es:=str_not e
      have es':=str_not (fun h=>e (Eq.symm h))
      have HE:=hid e
      clear e
      go_wp2
      try go_quiet (fail)
      try go_wp2
      go_roundw
      case rel =>
       refine ⟨k + 1,HK.out,by simp,fun j hj=>?_,_,rfl⟩
       by_cases ej:j = k
       · rw [ej];exact HE.out
       · exact Hne.out j (by omega)
      case measure=>have:=HK.out;simp [intOf];omega
  · have hkn':k = n:=by omega
    subst hkn'
    go_wp2
    go_ret
    refine ⟨_,rfl,⟨fun h=>absurd h (by decide),fun h=>?_⟩,_,rfl⟩
    obtain ⟨j,hj,e⟩:=mem_atS.1 h
    exact absurd e (Hne.out j (by rw [← HL.out];exact hj))
theorem containsS_any (a:Option Addr) (n cap:Nat) (l:List ByteArray) (s:ByteArray) (w:World) (h:Txs w a n (atS l)) (hl:l.length = n) (hn:n ≤ 9223372036854775807) :
 Calls Tryz.prog 42 #[.slice a n cap,.string s] w fun e w'=>e = .returned (.bool (memB l s))∧∃ q,w' = w.drewN q:=by
 have C:=indexS_any a n cap l s w h hl hn
 clear h hl
 go_enter Tryz.func42,Tryz.ntmps42
 go_wp2_with (go_at_call 95;refine C.mono ?_;rintro e w2 ⟨i,rfl,hi,q,rfl⟩)
 go_ret
 exact ⟨by rw [show memB l s = decide (0 ≤ i) by rw [Bool.eq_iff_iff,memB_iff,← hi,decide_eq_true_eq]];rfl,q,rfl⟩
open Go.Extern.Stop Go.Stop Go.Extern
inductive Rfs where
 | base (e:Int):Rfs
 | row (i:Int) (y:Rfs):Rfs
abbrev rfsV (e:Int):Value:=.iface 63 (.int .i64 e)
def Rfs.val:Rfs→Value
 | .base e=>rfsV e
 | .row i y=>.iface 217 (.agg #[.int .i64 i,y.val])
def Rfs.root:Rfs→Int
 | .base e=>e
 | .row _ y=>y.root
abbrev hdl (t:Nat):Value:=.pointer (some ⟨3,t,none⟩)
abbrev rty (t:Nat):Value:=.iface 182 (.agg #[hdl t])
abbrev asV (b:Nat):Value:=.agg #[hdl 67,.pointer (some ⟨b,0,none⟩),.int .u64 150]
theorem Tryz.asValueOf (a:Addr) (w:World):(callFunc 71 #[.iface 67 (.pointer (some a))]).run Tryz.prog w = .ok (.value (asV w.heap.size)) (w.alloc (.cells #[.pointer (some a)] 67)):=by
 rw [@run_callFunc_extern Tryz.prog 71 _ (fun args=>Extern.ReflectliteValue.unpack (args.getD 0 (.tuple #[]))) Tryz.func71 (by kernel_rfl) (by kernel_rfl) (by kernel_rfl) (by kernel_rfl)]
 kernel_rfl
theorem Tryz.asValueOfR (e:Int) (w:World):(callFunc 71 #[rfsV e]).run Tryz.prog w = .ok (.value (.agg #[hdl 63,.pointer (some ⟨w.heap.size,0,none⟩),.int .u64 130])) (w.alloc (.cells #[.int .i64 e] 63)):=by
 rw [@run_callFunc_extern Tryz.prog 71 _ (fun args=>Extern.ReflectliteValue.unpack (args.getD 0 (.tuple #[]))) Tryz.func71 (by kernel_rfl) (by kernel_rfl) (by kernel_rfl) (by kernel_rfl)]
 kernel_rfl
theorem Tryz.asType (b:Nat) (w:World):(callFunc 72 #[asV b]).run Tryz.prog w = .ok (.value (rty 67)) w:=by
 rw [@run_callFunc_extern Tryz.prog 72 _ (Extern.ReflectliteValue.methodAny (Extern.ReflectliteValue.valueError "reflectlite.Value.Type" 0) fun t _ _ _ => Extern.ReflectliteType.toType t) Tryz.func72 (by kernel_rfl) (by kernel_rfl) (by kernel_rfl) (by kernel_rfl)]
 kernel_rfl
theorem Tryz.asKindP (w:World):(callFunc 240 #[hdl 67]).run Tryz.prog w = .ok (.value (.int .u8 22)) w:=by
 rw [@run_callFunc_extern Tryz.prog 240 _ (Extern.ReflectliteType.abiMethod fun t=>do pure (.int .u8 (← Extern.Rtype.kind t))) Tryz.func240 (by kernel_rfl) (by kernel_rfl) (by kernel_rfl) (by kernel_rfl)]
 kernel_rfl
theorem Tryz.asKindR (w:World):(callFunc 240 #[hdl 63]).run Tryz.prog w = .ok (.value (.int .u8 2)) w:=by
 rw [@run_callFunc_extern Tryz.prog 240 _ (Extern.ReflectliteType.abiMethod fun t=>do pure (.int .u8 (← Extern.Rtype.kind t))) Tryz.func240 (by kernel_rfl) (by kernel_rfl) (by kernel_rfl) (by kernel_rfl)]
 kernel_rfl
theorem Tryz.asElemT (w:World):(callFunc 250 #[.agg #[hdl 67]]).run Tryz.prog w = .ok (.value (rty 63)) w:=by
 rw [@run_callFunc_extern Tryz.prog 250 _ (Extern.ReflectliteType.method Extern.ReflectliteType.elem) Tryz.func250 (by kernel_rfl) (by kernel_rfl) (by kernel_rfl) (by kernel_rfl)]
 kernel_rfl
theorem Tryz.asImpl (w:World):(callFunc 251 #[.agg #[hdl 63],rty 66]).run Tryz.prog w = .ok (.value (.bool true)) w:=by
 rw [@run_callFunc_extern Tryz.prog 251 _ (Extern.ReflectliteType.relation "Implements" Extern.ReflectliteType.implements_) Tryz.func251 (by kernel_rfl) (by kernel_rfl) (by kernel_rfl) (by kernel_rfl)]
 kernel_rfl
theorem Tryz.asAssI (w:World):(callFunc 248 #[.agg #[hdl 217],rty 63]).run Tryz.prog w = .ok (.value (.bool false)) w:=by
 rw [@run_callFunc_extern Tryz.prog 248 _ (Extern.ReflectliteType.relation "AssignableTo" Extern.ReflectliteType.assignableTo) Tryz.func248 (by kernel_rfl) (by kernel_rfl) (by kernel_rfl) (by kernel_rfl)]
 kernel_rfl
theorem Tryz.asAssR (w:World):(callFunc 248 #[.agg #[hdl 63],rty 63]).run Tryz.prog w = .ok (.value (.bool true)) w:=by
 rw [@run_callFunc_extern Tryz.prog 248 _ (Extern.ReflectliteType.relation "AssignableTo" Extern.ReflectliteType.assignableTo) Tryz.func248 (by kernel_rfl) (by kernel_rfl) (by kernel_rfl) (by kernel_rfl)]
 kernel_rfl
theorem Tryz.asTypeOfI (v:Value) (w:World):(callFunc 123 #[.iface 217 v]).run Tryz.prog w = .ok (.value (rty 217)) w:=by
 rw [@run_callFunc_extern Tryz.prog 123 _ Extern.ReflectliteType.typeOf Tryz.func123 (by kernel_rfl) (by kernel_rfl) (by kernel_rfl) (by kernel_rfl)]
 kernel_rfl
theorem Tryz.asTypeOfR (v:Value) (w:World):(callFunc 123 #[.iface 63 v]).run Tryz.prog w = .ok (.value (rty 63)) w:=by
 rw [@run_callFunc_extern Tryz.prog 123 _ Extern.ReflectliteType.typeOf Tryz.func123 (by kernel_rfl) (by kernel_rfl) (by kernel_rfl) (by kernel_rfl)]
 kernel_rfl
theorem Tryz.asMKind (v : Value) (w : World) : (Go.method 419 182 (.agg #[v]) "Kind").run Tryz.prog w = .ok (240, v) w := by kernel_rfl
theorem Tryz.asMElem (v : Value) (w : World) : (Go.method 419 182 v "Elem").run Tryz.prog w = .ok (250, v) w := by kernel_rfl
theorem Tryz.asMImpl (v : Value) (w : World) : (Go.method 419 182 v "Implements").run Tryz.prog w = .ok (251, v) w := by kernel_rfl
theorem Tryz.asMAss (v : Value) (w : World) : (Go.method 419 182 v "AssignableTo").run Tryz.prog w = .ok (248, v) w := by kernel_rfl
theorem Tryz.asMUnwrap (v : Value) (w : World) : (Go.method 419 217 v "Unwrap").run Tryz.prog w = .ok (259, v) w := by kernel_rfl
theorem Tryz.asNoAs (v:Value) (xT:TypeId) (w:World):(Instr.typeAssert (.iface 217 v) xT 187 true).run Tryz.prog w = .ok (.tuple #[.nilIface,.bool false]) w:=run_typeAssert_lacksB Tryz.underlying187 (by kernel_rfl) (by kernel_rfl) v xT w
theorem Tryz.asHasU (v:Value) (xT:TypeId) (w:World):(Instr.typeAssert (.iface 217 v) xT 190 true).run Tryz.prog w = .ok (.tuple #[.iface 217 v,.bool true]) w:=run_typeAssert_hasB Tryz.underlying190 (by kernel_rfl) v xT w
def errV (e:Int):Value:=if e = 0 then .nilIface else rfsV e
def ErrW (z:Int) (v:Value):Prop:=(z = 0∧v = .nilIface) ∨ (z ≠ 0∧∃ y:Rfs,y.root = z∧v = y.val)
theorem errW_of (z:Int):ErrW z (errV z):=by
 unfold errV
 split
 · exact .inl ⟨by assumption,rfl⟩
 · exact .inr ⟨by assumption,.base z,rfl,rfl⟩
theorem refused_any (e:Int) (w:World):Calls Tryz.prog 113 #[.int .i64 e] w fun r w'=>r = .returned (errV e)∧w' = w:=by
 unfold errV
 by_cases h:e = 0
 · subst h
   go_enter Tryz.func113,Tryz.ntmps113
   go_wp2
   go_ret
   exact ⟨rfl,rfl⟩
 · have t:(e == 0) = false:=by simpa using h
   rw [if_neg h]
   clear h
   go_enter Tryz.func113,Tryz.ntmps113
   go_wp2
   go_ret
   exact ⟨rfl,rfl⟩
theorem refusedIf_any (b:Bool) (e:Int) (w:World):Calls Tryz.prog 111 #[.bool b,.int .i64 e] w fun r w'=>r = .returned (if b then rfsV e else .nilIface)∧w' = w:=by
 cases b
 all_goals go_enter Tryz.func111,Tryz.ntmps111
 all_goals go_wp2
 all_goals go_ret
 all_goals exact ⟨rfl,rfl⟩
theorem method_run {P:Program} {z:Sem Value} {f:TypeId→Addr→Nat→Nat→Sem Value} {v:Value} {t:TypeId} {a:Addr} {fl:Nat} {w:World} (h:(Extern.ReflectliteValue.parts v).run P w = .ok (some (t,a,fl)) w) :
 (Extern.ReflectliteValue.method z f #[v]).run P w = (f t a fl (fl % 32)).run P w:=by
 show (Bind.bind (Extern.ReflectliteValue.parts v) _).run P w = _
 rw [Sem.run_bind,h]
 rfl
theorem set_run {P:Program} {v x:Value} {t t':TypeId} {a a':Addr} {fl fl':Nat} {w w':World} {u:Value} (h:(Extern.ReflectliteValue.parts v).run P w = .ok (some (t,a,fl)) w) (h':(Extern.ReflectliteValue.parts x).run P w = .ok (some (t',a',fl')) w)
 (hfl:fl / Extern.ReflectliteValue.flagAddr % 2 = 1) (hl:(loadVar t' a').run P w = .ok u w) (hd:(Extern.Rtype.directlyAssignable t t').run P w = .ok true w) (hs:(storeVar t a u).run P w = .ok () w') :
 (Extern.ReflectliteValue.set #[v,x]).run P w = .ok (.tuple #[]) w':=by
 show (Bind.bind (Extern.ReflectliteValue.parts v) _).run P w = _
 rw [Sem.run_bind,h]
 show (Bind.bind (Extern.ReflectliteValue.parts x) _).run P w = _
 rw [Sem.run_bind,h']
 simp [hfl,hl,hd,hs]
theorem Tryz.asIsNil (b:Nat) (a:Addr) (w:World) (hc:w.cell? ⟨b,0,none⟩ = some (.pointer (some a))):(callFunc 73 #[asV b]).run Tryz.prog w = .ok (.value (.bool false)) w:=by
 rw [@run_callFunc_extern Tryz.prog 73 _ (Extern.ReflectliteValue.method (Extern.ReflectliteValue.valueError "reflectlite.Value.IsNil" 0) Extern.ReflectliteValue.isNil) Tryz.func73 (by kernel_rfl) (by kernel_rfl) (by kernel_rfl) (by kernel_rfl)]
 have h1:(Extern.ReflectliteValue.parts (asV b)).run Tryz.prog w = .ok (some (67,⟨b,0,none⟩,150)) w:=by kernel_rfl
 have h2:(loadVar 67 ⟨b,0,none⟩).run Tryz.prog w = .ok (.pointer (some a)) w:=by
  have:(isAgg 67).run Tryz.prog w = .ok false w:=by kernel_rfl
  simp [loadVar,this,hc]
 rw [method_run h1]
 simp [Extern.ReflectliteValue.isNil,h2]
theorem Tryz.asElemV (b:Nat) (a:Addr) (w:World) (hc:w.cell? ⟨b,0,none⟩ = some (.pointer (some a))):(callFunc 124 #[asV b]).run Tryz.prog w = .ok (.value (.agg #[hdl 63,.pointer (some a),.int .u64 386])) w:=by
 rw [@run_callFunc_extern Tryz.prog 124 _ (Extern.ReflectliteValue.method (Extern.ReflectliteValue.valueError "reflectlite.Value.Elem" 0) Extern.ReflectliteValue.elem) Tryz.func124 (by kernel_rfl) (by kernel_rfl) (by kernel_rfl) (by kernel_rfl)]
 have h1:(Extern.ReflectliteValue.parts (asV b)).run Tryz.prog w = .ok (some (67,⟨b,0,none⟩,150)) w:=by kernel_rfl
 have h2:(loadVar 67 ⟨b,0,none⟩).run Tryz.prog w = .ok (.pointer (some a)) w:=by
  have:(isAgg 67).run Tryz.prog w = .ok false w:=by kernel_rfl
  simp [loadVar,this,hc]
 have h3:(Extern.Rtype.elem? 67).run Tryz.prog w = .ok (some 63) w:=by kernel_rfl
 have h4:(Extern.ReflectliteValue.mk 63 a Extern.ReflectliteValue.flagAddr).run Tryz.prog w = .ok (.agg #[hdl 63,.pointer (some a),.int .u64 386]) w:=by kernel_rfl
 rw [method_run h1]
 simp [Extern.ReflectliteValue.elem,h2,h3,h4]
theorem Tryz.asSet (a b:Nat) (e z:Int) (w:World) (hb:w.cell? ⟨b,0,none⟩ = some (.int .i64 e)) (ha:w.cell? ⟨a,0,none⟩ = some (.int .i64 z)) (hf:w.frozen? ⟨a,0,none⟩ = false) :
 (callFunc 125 #[.agg #[hdl 63,.pointer (some ⟨a,0,none⟩),.int .u64 386],.agg #[hdl 63,.pointer (some ⟨b,0,none⟩),.int .u64 130]]).run Tryz.prog w = .ok (.value (.tuple #[])) (w.setCell ⟨a,0,none⟩ (.int .i64 e)):=by
 rw [@run_callFunc_extern Tryz.prog 125 _ Extern.ReflectliteValue.set Tryz.func125 (by kernel_rfl) (by kernel_rfl) (by kernel_rfl) (by kernel_rfl)]
 have h1:(Extern.ReflectliteValue.parts (.agg #[hdl 63,.pointer (some ⟨a,0,none⟩),.int .u64 386])).run Tryz.prog w = .ok (some (63,⟨a,0,none⟩,386)) w:=by kernel_rfl
 have h2:(Extern.ReflectliteValue.parts (.agg #[hdl 63,.pointer (some ⟨b,0,none⟩),.int .u64 130])).run Tryz.prog w = .ok (some (63,⟨b,0,none⟩,130)) w:=by kernel_rfl
 have h3:(loadVar 63 ⟨b,0,none⟩).run Tryz.prog w = .ok (.int .i64 e) w:=by
  have:(isAgg 63).run Tryz.prog w = .ok false w:=by kernel_rfl
  simp [loadVar,this,hb]
 have h4:(Extern.Rtype.directlyAssignable 63 63).run Tryz.prog w = .ok true w:=by kernel_rfl
 have h5:(storeVar 63 ⟨a,0,none⟩ (.int .i64 e)).run Tryz.prog w = .ok () (w.setCell ⟨a,0,none⟩ (.int .i64 e)):=by
  have:(sizeOf 63).run Tryz.prog w = .ok 1 w:=by kernel_rfl
  simp [storeVar,this,Value.cells,storeCells,go_sem,ha,hf]
 rw [set_run h1 h2 (by decide) h3 h4 h5]
 rfl
theorem Rfs.iface (y:Rfs):∃ t u,y.val = .iface t u:=by cases y <;> exact ⟨_,_,rfl⟩
theorem unwrapW_any (i:Int) (v:Value) (w:World):Calls Tryz.prog 259 #[.agg #[.int .i64 i,v]] w (RV v w):=by
 go_enter Tryz.func259,Tryz.ntmps259
 go_wp2
 exact bodyPost_ret (v:=v) (by simp [results,Tryz.results259,go_sem]) rfl ⟨rfl,nwB _ _⟩
theorem as_loop (y:Rfs) (b vb:Nat) (z:Int) (w:World) (tg:Value) (hb:Boxed w b 63 (.int .i64 z)) (hv:w.cell? ⟨vb,0,none⟩ = some (.pointer (some ⟨b,0,none⟩))) :
 Calls Tryz.prog 74 #[y.val,tg,asV vb,rty 63] w fun e w'=>e = .returned (.bool true)∧Boxed w' b 63 (.int .i64 y.root)∧Below b w w':=by
 have tI:=Tryz.asTypeOfI
 have tR:=Tryz.asTypeOfR
 have aI:=Tryz.asAssI
 have aR:=Tryz.asAssR
 have mA:=Tryz.asMAss
 have mU:=Tryz.asMUnwrap
 have nA:=Tryz.asNoAs
 have hU:=Tryz.asHasU
 have vR:=Tryz.asValueOfR
 obtain ⟨A,hA⟩:∃ A,w.alloc (.cells #[hdl 67,.pointer (some ⟨vb,0,none⟩),.int .u64 150] 120) = A:=⟨_,rfl⟩
 have hBA:Below w.heap.size w A:=by rw [← hA];exact nwB w _
 have HQ:Hid (A.heap[w.heap.size]? = some (.cells #[hdl 67,.pointer (some ⟨vb,0,none⟩),.int .u64 150] 120 (0,0))):=by rw [← hA];exact alloc_new w _
 have hsA:A.heap.size = w.heap.size + 1:=by rw [← hA];simp
 have hblt:=hb.lt
 have HB:Hid (Boxed A b 63 (.int .i64 z)):=Boxed.kept_of hb hBA hblt
 have HV:Hid (A.cell? ⟨vb,0,none⟩ = _):=cell_later hv hBA
 clear hb hv
 go_enter Tryz.func74,Tryz.ntmps74
 go_wp2
 go_loopw [0] (fun u wr=>∃ x:Rfs,u = x.val∧x.root = y.root∧Below A.heap.size A wr) (fun u _=>SizeOf.sizeOf u)
 case atStart=>exact ⟨y,rfl,rfl,Below.refl _ _⟩
 case round =>
  obtain ⟨x,rfl,hr,hB⟩:=hrel
  have HR:=hid hr
  clear hr
  cases x with
  | base e =>
    have hbw:Boxed wr b 63 (.int .i64 z):=Boxed.kept_of HB.out hB (by omega)
    have hvw:=cell_later HV.out hB
    have hq:wr.heap[w.heap.size]? = some (.cells #[hdl 67,.pointer (some ⟨vb,0,none⟩),.int .u64 150] 120 (0,0)):=(hB.block _ (by omega)).trans HQ.out
    have q0:wr.cell? ⟨w.heap.size,0,none⟩ = some (hdl 67):=by simp [World.cell?,hq]
    have q1:wr.cell? ⟨w.heap.size,1,none⟩ = some (.pointer (some ⟨vb,0,none⟩)):=by simp [World.cell?,hq]
    have q2:wr.cell? ⟨w.heap.size,2,none⟩ = some (.int .u64 150):=by simp [World.cell?,hq]
    have hEl:=Tryz.asElemV vb ⟨b,0,none⟩ wr hvw
    have hb2:=hbw.alloc (.cells #[.int .i64 e] 63)
    have hSet:=Tryz.asSet b wr.heap.size e z (wr.alloc (.cells #[.int .i64 e] 63)) (Boxed.new wr 63 (.int .i64 e)).cell hb2.cell hb2.frozen
    have HS:Hid (Boxed ((wr.alloc (.cells #[.int .i64 e] 63)).setCell ⟨b,0,none⟩ (.int .i64 e)) b 63 (.int .i64 e)):=hb2.set _
    have HW:Hid (Below b w ((wr.alloc (.cells #[.int .i64 e] 63)).setCell ⟨b,0,none⟩ (.int .i64 e))):=((hBA.mono (Nat.le_of_lt hblt)).trans (hB.mono (by omega))).alloc (by have:=hB.size;omega) _ |>.setCell (p:=⟨b,0,none⟩) (Nat.le_refl _) _
    clear hbw hvw hb2 hq
    simp only [Rfs.val]
    go_wp2
    go_ret
    exact ⟨rfl,by rw [← HR.out];exact HS.out,HW.out⟩
  | row i1 x =>
    cases x with
    | base a1 =>
      simp only [Rfs.val]
      go_wp2_with (first | (go_at_call 259;refine (unwrapW_any i1 (rfsV a1) _).mono ?_;rintro e w2 ⟨rfl,hB2⟩))
      go_roundw
      case rel=>exact ⟨.base a1,rfl,HR.out,hB.trans (hB2.mono hB.size)⟩
      case measure=>simp;omega
    | row i2 x =>
      simp only [Rfs.val]
      go_wp2_with (first | (go_at_call 259;refine (unwrapW_any i1 (.iface 217 (.agg #[.int .i64 i2,x.val])) _).mono ?_;rintro e w2 ⟨rfl,hB2⟩))
      go_roundw
      case rel=>exact ⟨.row i2 x,rfl,HR.out,hB.trans (hB2.mono hB.size)⟩
      case measure=>simp;omega
def FstR (R:Nat→Int→Prop) (n:Nat) (z:Int):Prop:=(z = 0∧∀ i,i < n→R i 0) ∨ (z ≠ 0∧∃ i,i < n∧(∀ j,j < i→R j 0)∧R i z)
theorem FstR.one {R:Nat→Int→Prop} {n:Nat} (h1:∀ i,i < n→∀ z z',R i z→R i z'→z = z') {z z':Int} (h:FstR R n z) (h':FstR R n z'):z = z':=by
 rcases h with ⟨rfl,a⟩ | ⟨a,i,hi,b,c⟩ <;> rcases h' with ⟨rfl,a'⟩ | ⟨a',i',hi',b',c'⟩
 · rfl
 · exact h1 i' hi' _ _ (a i' hi') c'
 · exact h1 i hi _ _ c (a' i hi)
 · rcases Nat.lt_trichotomy i i' with h | h | h
   · exact absurd (h1 i hi _ _ c (b' i h)) a
   · subst h;exact h1 i hi _ _ c c'
   · exact absurd (h1 i' hi' _ _ c' (b i' h)) a'
abbrev zeroX:Array Value:=#[.int .i64 0,.int .i64 0,.int .i64 0,.string ⟨#[]⟩,.string ⟨#[]⟩,.string ⟨#[]⟩,.slice none 0 0]
abbrev cells7 (x:X):Array Value:=#[.int .i64 x.k,.int .i64 x.v.k,.int .i64 x.v.n,.string x.v.s,.string x.s,.string x.f,.slice x.a x.n x.cap]
theorem boxX_put (x:X) (w:World):∃ A W,w.alloc (.cells zeroX 54) = A∧A.heap[w.heap.size]? = some (.cells zeroX 54 (0,0)) ∧
 ((((((A.setCell ⟨w.heap.size,0,none⟩ (.int .i64 x.k)).setCell ⟨w.heap.size,1,none⟩ (.int .i64 x.v.k)).setCell ⟨w.heap.size,2,none⟩ (.int .i64 x.v.n)).setCell ⟨w.heap.size,3,none⟩ (.string x.v.s)).setCell ⟨w.heap.size,4,none⟩ (.string x.s)).setCell ⟨w.heap.size,5,none⟩ (.string x.f)).setCell ⟨w.heap.size,6,none⟩ (.slice x.a x.n x.cap) = W ∧
 Below w.heap.size w W∧W.heap[w.heap.size]? = some (.cells (cells7 x) 54 (0,0))∧W.heap.size = w.heap.size + 1:=by
 have h0:(w.alloc (.cells zeroX 54)).heap[w.heap.size]? = some (.cells zeroX 54 (0,0)):=World.alloc_heap_new w _
 exact ⟨_,_,rfl,h0,rfl,((((((nwB w _).setCell (Nat.le_refl _) _).setCell (Nat.le_refl _) _).setCell (Nat.le_refl _) _).setCell (Nat.le_refl _) _).setCell (Nat.le_refl _) _).setCell (Nat.le_refl _) _ |>.setCell (Nat.le_refl _) _,
  heap_set (heap_set (heap_set (heap_set (heap_set (heap_set (heap_set h0)))))),by simp⟩
theorem zero_cellsX {w:World} {B:Nat} (h:w.heap[B]? = some (.cells zeroX 54 (0,0))):(w.cell? ⟨B,0,none⟩ = some (.int .i64 0)∧w.cell? ⟨B,1,none⟩ = some (.int .i64 0)∧w.cell? ⟨B,2,none⟩ = some (.int .i64 0)∧w.cell? ⟨B,3,none⟩ = some (.string ⟨#[]⟩)∧w.cell? ⟨B,4,none⟩ = some (.string ⟨#[]⟩)∧w.cell? ⟨B,5,none⟩ = some (.string ⟨#[]⟩)∧w.cell? ⟨B,6,none⟩ = some (.slice none 0 0)) ∧
 ∀ j,w.frozen? ⟨B,j,none⟩ = false:=by
 refine ⟨⟨?_,?_,?_,?_,?_,?_,?_⟩,fun j=>?_⟩ <;> simp [World.cell?,World.frozen?,h]
theorem cells7_at {w:World} {B:Nat} {x:X} (h:w.heap[B]? = some (.cells (cells7 x) 54 (0,0))):w.cell? ⟨B,0,none⟩ = some (.int .i64 x.k)∧w.cell? ⟨B,1,none⟩ = some (.int .i64 x.v.k)∧w.cell? ⟨B,2,none⟩ = some (.int .i64 x.v.n)∧w.cell? ⟨B,3,none⟩ = some (.string x.v.s) ∧
 w.cell? ⟨B,4,none⟩ = some (.string x.s)∧w.cell? ⟨B,5,none⟩ = some (.string x.f)∧w.cell? ⟨B,6,none⟩ = some (.slice x.a x.n x.cap):=by
 refine ⟨?_,?_,?_,?_,?_,?_,?_⟩ <;> simp [World.cell?,h]
abbrev zeroIt:Array Value:=#[.string ⟨#[]⟩,.int .i64 0,.string ⟨#[]⟩,.string ⟨#[]⟩]
theorem boxI_put (x:It) (w:World):∃ A W,w.alloc (.cells zeroIt 77) = A∧A.heap[w.heap.size]? = some (.cells zeroIt 77 (0,0)) ∧
 (((A.setCell ⟨w.heap.size,0,none⟩ (.string x.nm)).setCell ⟨w.heap.size,1,none⟩ (.int .i64 x.k)).setCell ⟨w.heap.size,2,none⟩ (.string x.s)).setCell ⟨w.heap.size,3,none⟩ (.string x.f) = W ∧
 Below w.heap.size w W∧W.heap[w.heap.size]? = some (.cells x.cells 77 (0,0))∧W.heap.size = w.heap.size + 1:=by
 have h0:(w.alloc (.cells zeroIt 77)).heap[w.heap.size]? = some (.cells zeroIt 77 (0,0)):=World.alloc_heap_new w _
 exact ⟨_,_,rfl,h0,rfl,((((nwB w _).setCell (Nat.le_refl _) _).setCell (Nat.le_refl _) _).setCell (Nat.le_refl _) _).setCell (Nat.le_refl _) _,
  heap_set (heap_set (heap_set (heap_set h0))),by simp⟩
theorem zero_cellsI {w:World} {B:Nat} (h:w.heap[B]? = some (.cells zeroIt 77 (0,0))):(w.cell? ⟨B,0,none⟩ = some (.string ⟨#[]⟩)∧w.cell? ⟨B,1,none⟩ = some (.int .i64 0)∧w.cell? ⟨B,2,none⟩ = some (.string ⟨#[]⟩)∧w.cell? ⟨B,3,none⟩ = some (.string ⟨#[]⟩))∧∀ j,w.frozen? ⟨B,j,none⟩ = false:=by
 refine ⟨⟨?_,?_,?_,?_⟩,fun j=>?_⟩ <;> simp [World.cell?,World.frozen?,h]
def Looks (W:World) (R:Nat→Int→Prop) (f:Nat) (first cap:Array Value) (n:Nat) (arg:Nat→Value):Prop :=
 ∀ i,i < n→∀ d,Below W.heap.size W d→Calls Tryz.prog f (first ++ #[arg i] ++ cap) d fun e w'=>∃ z v,e = .returned v∧R i z∧ErrW z v∧Below d.heap.size d w'
theorem eachX_any (a:Option Addr) (n cap:Nat) (c:Nat→X) (W:World) (hn:n ≤ 9223372036854775807) (hX:∀ d,Below W.heap.size W d→∀ i,i < n→∃ b o,a = some ⟨b,o,none⟩∧Node d b (o + i * 7) (c i)) (R:Nat→Int→Prop) (p:Value) (h:Looks W R 117 #[p] #[] n (fun i=>(c i).val)) :
 Calls Tryz.prog 116 #[.slice a n cap,.func (.func 117) #[p] #[]] W fun e w'=>∃ z v,e = .returned v∧FstR R n z∧ErrW z v∧Below W.heap.size W w':=by
 have HX:Hid _:=hX
 have HL:Hid _:=h
 clear hX h
 go_enter Tryz.func116,Tryz.ntmps116
 go_wp2
 go_loopw [10] (fun u wr=>∃ k:Nat,k ≤ n∧u = .int .i64 k∧Hid (∀ j,j < k→R j 0)∧Below W.heap.size W wr) (fun u _=>n - (intOf u).toNat)
 case atStart=>exact ⟨0,Nat.zero_le _,rfl,fun j hj=>absurd hj (Nat.not_lt_zero _),Below.refl _ _⟩
 case round =>
  obtain ⟨k,hk,rfl,HK,hB⟩:=hrel
  by_cases hkn:k < n
  · obtain ⟨b1,o1,rfl,hn1⟩:=HX.out wr hB k hkn
    obtain ⟨C,V,hC,hCb,hCV,hCB,hCn,hCs⟩:=boxX_put (c k) wr
    obtain ⟨⟨g0,g1,g2,g3,g4,g5,g6⟩,fz⟩:=zero_cellsX hCb
    obtain ⟨c0,c1,c2,c3,c4,c5,c6⟩:=hn1
    obtain ⟨j0,j1,j2,j3,j4,j5,j6⟩:=cells7_at hCn
    have HBV:Hid (Below W.heap.size W V):=hB.trans (hCB.mono hB.size)
    clear hCb hCn hCs hCB
    have C7:=HL.out k hkn V HBV.out
    have HKN:=hid hkn
    simp only [List.append_toArray,List.cons_append,List.nil_append] at C7
    go_wp2_with (go_at_call 117;refine C7.mono ?_;clear C7;rintro e w2 ⟨z,v,rfl,hz,hv,hB2⟩;rcases hv with ⟨rfl,rfl⟩ | ⟨hz0,y,hy,rfl⟩;rotate_left;(obtain ⟨yt,yu,ey⟩:=y.iface;rw [ey]))
    · go_ret
      refine ⟨z,_,rfl,.inr ⟨hz0,k,HKN.out,HK.out,hz⟩,.inr ⟨hz0,.row k y,hy,by rw [Rfs.val,ey];rfl⟩,?_⟩
      have:=HBV.out.trans (hB2.mono HBV.out.size)
      first | exact this | exact this.alloc this.size _
    · go_roundw
      case rel =>
       refine ⟨k + 1,HKN.out,by simp,fun j hj=>?_,HBV.out.trans (hB2.mono HBV.out.size)⟩
       by_cases ej:j = k
       · rw [ej];exact hz
       · exact HK.out j (by omega)
      case measure=>have:=HKN.out;simp [intOf];omega
  · have hk':k = n:=by omega
    subst hk'
    go_wp2
    go_ret
    exact ⟨0,_,rfl,.inl ⟨rfl,HK.out⟩,.inl ⟨rfl,rfl⟩,hB⟩
theorem eachI_any (a:Option Addr) (n cap:Nat) (c:Nat→It) (W:World) (hn:n ≤ 9223372036854775807) (hX:∀ d,Below W.heap.size W d→Its d a n c) (R:Nat→Int→Prop) (p:Value) (h:Looks W R 122 #[p] #[] n (fun i=>(c i).val)) :
 Calls Tryz.prog 121 #[.slice a n cap,.func (.func 122) #[p] #[]] W fun e w'=>∃ z v,e = .returned v∧FstR R n z∧ErrW z v∧Below W.heap.size W w':=by
 have HX:Hid _:=hX
 have HL:Hid _:=h
 clear hX h
 go_enter Tryz.func121,Tryz.ntmps121
 go_wp2
 go_loopw [10] (fun u wr=>∃ k:Nat,k ≤ n∧u = .int .i64 k∧Hid (∀ j,j < k→R j 0)∧Below W.heap.size W wr) (fun u _=>n - (intOf u).toNat)
 case atStart=>exact ⟨0,Nat.zero_le _,rfl,fun j hj=>absurd hj (Nat.not_lt_zero _),Below.refl _ _⟩
 case round =>
  obtain ⟨k,hk,rfl,HK,hB⟩:=hrel
  by_cases hkn:k < n
  · obtain ⟨b1,o1,rfl,hn1⟩:=HX.out wr hB k hkn
    obtain ⟨C,V,hC,hCb,hCV,hCB,hCn,hCs⟩:=boxI_put (c k) wr
    obtain ⟨⟨g0,g1,g2,g3⟩,fz⟩:=zero_cellsI hCb
    obtain ⟨c0,c1,c2,c3⟩:=hn1
    obtain ⟨j0,j1,j2,j3⟩:=itAt_box hCn
    simp only [Nat.zero_add] at j1 j2 j3
    have HBV:Hid (Below W.heap.size W V):=hB.trans (hCB.mono hB.size)
    clear hCb hCn hCs hCB
    have C7:=HL.out k hkn V HBV.out
    have HKN:=hid hkn
    simp only [List.append_toArray,List.cons_append,List.nil_append] at C7
    go_wp2_with (go_at_call 122;refine C7.mono ?_;clear C7;rintro e w2 ⟨z,v,rfl,hz,hv,hB2⟩;rcases hv with ⟨rfl,rfl⟩ | ⟨hz0,y,hy,rfl⟩;rotate_left;(obtain ⟨yt,yu,ey⟩:=y.iface;rw [ey]))
    · go_ret
      refine ⟨z,_,rfl,.inr ⟨hz0,k,HKN.out,HK.out,hz⟩,.inr ⟨hz0,.row k y,hy,by rw [Rfs.val,ey];rfl⟩,?_⟩
      have:=HBV.out.trans (hB2.mono HBV.out.size)
      first | exact this | exact this.alloc this.size _
    · go_roundw
      case rel =>
       refine ⟨k + 1,HKN.out,by simp,fun j hj=>?_,HBV.out.trans (hB2.mono HBV.out.size)⟩
       by_cases ej:j = k
       · rw [ej];exact hz
       · exact HK.out j (by omega)
      case measure=>have:=HKN.out;simp [intOf];omega
  · have hk':k = n:=by omega
    subst hk'
    go_wp2
    go_ret
    exact ⟨0,_,rfl,.inl ⟨rfl,HK.out⟩,.inl ⟨rfl,rfl⟩,hB⟩
theorem eachS_any (a:Option Addr) (n cap:Nat) (S:Nat→ByteArray) (W:World) (hn:n ≤ 9223372036854775807) (hX:Txs W a n S) (R:Nat→Int→Prop) (p q:Value) (h:Looks W R 120 #[] #[p,q] n (fun i=>.string (S i))) :
 Calls Tryz.prog 119 #[.slice a n cap,.func (.func 120) #[] #[p,q]] W fun e w'=>∃ z v,e = .returned v∧FstR R n z∧ErrW z v∧Below W.heap.size W w':=by
 have HX:Hid _:=hX
 have HL:Hid _:=h
 clear hX h
 go_enter Tryz.func119,Tryz.ntmps119
 go_wp2
 go_loopw [10] (fun u wr=>∃ k:Nat,k ≤ n∧u = .int .i64 k∧Hid (∀ j,j < k→R j 0)∧Below W.heap.size W wr) (fun u _=>n - (intOf u).toNat)
 case atStart=>exact ⟨0,Nat.zero_le _,rfl,fun j hj=>absurd hj (Nat.not_lt_zero _),Below.refl _ _⟩
 case round =>
  obtain ⟨k,hk,rfl,HK,hB⟩:=hrel
  by_cases hkn:k < n
  · obtain ⟨b1,o1,rfl,hn1⟩:=(show Txs W a n S from HX.out).later hB (Nat.lt_of_le_of_lt (Nat.zero_le _) hkn)
    have c0:=hn1 k hkn
    obtain ⟨V,hV⟩:∃ V,V = wr:=⟨_,rfl⟩
    have HBV:Hid (Below W.heap.size W V):=by rw [hV];exact hB
    subst hV
    clear hn1
    have C7:=HL.out k hkn V HBV.out
    have HKN:=hid hkn
    simp only [List.append_toArray,List.cons_append,List.nil_append] at C7
    go_wp2_with (go_at_call 120;refine C7.mono ?_;clear C7;rintro e w2 ⟨z,v,rfl,hz,hv,hB2⟩;rcases hv with ⟨rfl,rfl⟩ | ⟨hz0,y,hy,rfl⟩;rotate_left;(obtain ⟨yt,yu,ey⟩:=y.iface;rw [ey]))
    · go_ret
      refine ⟨z,_,rfl,.inr ⟨hz0,k,HKN.out,HK.out,hz⟩,.inr ⟨hz0,.row k y,hy,by rw [Rfs.val,ey];rfl⟩,?_⟩
      have:=HBV.out.trans (hB2.mono HBV.out.size)
      first | exact this | exact this.alloc this.size _
    · go_roundw
      case rel =>
       refine ⟨k + 1,HKN.out,by simp,fun j hj=>?_,HBV.out.trans (hB2.mono HBV.out.size)⟩
       by_cases ej:j = k
       · rw [ej];exact hz
       · exact HK.out j (by omega)
      case measure=>have:=HKN.out;simp [intOf];omega
  · have hk':k = n:=by omega
    subst hk'
    go_wp2
    go_ret
    exact ⟨0,_,rfl,.inl ⟨rfl,HK.out⟩,.inl ⟨rfl,rfl⟩,hB⟩
abbrev askC (bk:Value) (q:Qy) (vv nv mv pv:Value):Array Value:=#[bk,.int .i64 q.p.k,.string q.p.s,.string q.p.t,.int .i64 q.p.lo,.int .i64 q.p.hi,.slice q.p.a q.p.n q.p.cap,.slice q.a q.n q.cap,.string q.key,.int .i64 q.mode,.int .i64 q.win,.slice q.ia q.m q.icap,vv,nv,mv,pv]
def AB (W:World) (b:Nat) (bk:Value) (q:Qy) (vv nv mv pv:Value):Prop:=W.heap[b]? = some (.cells (askC bk q vv nv mv pv) 59 (0,0))
section
variable {W:World} {b:Nat} {bk:Value} {q:Qy} {vv nv mv pv:Value}
theorem AB.lt (h:AB W b bk q vv nv mv pv):b < W.heap.size:=(Array.getElem?_eq_some_iff.1 h).1
theorem AB.later {W':World} (h:AB W b bk q vv nv mv pv) (hB:Below W.heap.size W W'):AB W' b bk q vv nv mv pv:=(hB.block b h.lt).trans h
theorem AB.book (h:AB W b bk q vv nv mv pv):W.cell? ⟨b,0,none⟩ = some bk:=by unfold AB at h;simp [World.cell?,h]
theorem AB.node (h:AB W b bk q vv nv mv pv):NodeP W b 1 q.p:=by unfold AB at h;refine ⟨?_,?_,?_,?_,?_,?_⟩ <;> simp [World.cell?,h]
theorem AB.rest (h:AB W b bk q vv nv mv pv):W.cell? ⟨b,7,none⟩ = some (.slice q.a q.n q.cap)∧W.cell? ⟨b,8,none⟩ = some (.string q.key)∧W.cell? ⟨b,9,none⟩ = some (.int .i64 q.mode)∧W.cell? ⟨b,10,none⟩ = some (.int .i64 q.win)∧W.cell? ⟨b,11,none⟩ = some (.slice q.ia q.m q.icap):=by
 unfold AB at h
 refine ⟨?_,?_,?_,?_,?_⟩ <;> simp [World.cell?,h]
theorem AB.made (h:AB W b bk q vv nv mv pv):W.cell? ⟨b,12,none⟩ = some vv∧W.cell? ⟨b,13,none⟩ = some nv∧W.cell? ⟨b,14,none⟩ = some mv∧W.cell? ⟨b,15,none⟩ = some pv:=by
 unfold AB at h
 refine ⟨?_,?_,?_,?_⟩ <;> simp [World.cell?,h]
theorem AB.frozen (h:AB W b bk q vv nv mv pv) (j:Nat):W.frozen? ⟨b,j,none⟩ = false:=by unfold AB at h;simp [World.frozen?,h]
end
theorem NodeP.at1 {w:World} {B:Nat} {x:Pt} (h:NodeP w B 1 x):w.cell? ⟨B,1,none⟩ = some (.int .i64 x.k)∧w.cell? ⟨B,2,none⟩ = some (.string x.s)∧w.cell? ⟨B,3,none⟩ = some (.string x.t)∧w.cell? ⟨B,4,none⟩ = some (.int .i64 x.lo) ∧
 w.cell? ⟨B,5,none⟩ = some (.int .i64 x.hi)∧w.cell? ⟨B,6,none⟩ = some (.slice x.a x.n x.cap):=h
def Says (f:Nat) (b:Nat) (z:Int) (W:World):Prop:=Calls Tryz.prog f #[.pointer (some ⟨b,0,none⟩)] W fun e w'=>∃ v,e = .returned v∧ErrW z v∧Below W.heap.size W w'
section
variable (b:Nat) (bk:Value) (q:Qy) (vv nv mv pv:Value) (W:World) (h:AB W b bk q vv nv mv pv)
include h
theorem schemas_any (a:Option Addr) (ns cs:Nat) (Q:Nat→Sch) (hbk:bk = .slice a ns cs) (hS:Schs W a ns Q):Says 63 b (if bookZ ns Q = 0 then 0 else 1) W:=by
 subst hbk
 have c0:=h.book
 have C:=book_any a ns cs Q W hS
 unfold Says
 by_cases hz:bookZ ns Q = 0
 · rw [hz] at C
   rw [if_pos hz]
   clear hS h hz
   go_enter Tryz.func63,Tryz.ntmps63
   go_wp2_with (first
    | (go_at_call 112;refine C.mono ?_;rintro e w1 ⟨rfl,hB1⟩)
    | (go_at_call 111;refine (refusedIf_any false 1 _).mono ?_;rintro e w2 ⟨rfl,rfl⟩))
   go_ret
   exact ⟨_,rfl,.inl ⟨rfl,rfl⟩,hB1⟩
 · have t:(bookZ ns Q != 0) = true:=by simpa using hz
   rw [if_neg hz]
   clear hS h hz
   go_enter Tryz.func63,Tryz.ntmps63
   go_wp2_with (first
    | (go_at_call 112;refine C.mono ?_;rintro e w1 ⟨rfl,hB1⟩)
    | (go_at_call 111;refine (refusedIf_any true 1 _).mono ?_;rintro e w2 ⟨rfl,rfl⟩))
   go_ret
   exact ⟨_,rfl,.inr ⟨by decide,.base 1,rfl,rfl⟩,hB1⟩
theorem clauses_any (hQ:IsQ W q) (hok:QOk q) (hsm:q.bulk ≤ 1048576):Says 64 b (chkQ q) W:=by
 obtain ⟨d1,d2,d3,d4,d5,d6⟩:=h.node.at1
 obtain ⟨d7,d8,d9,d10,d11⟩:=h.rest
 have C:=checkQ_any q W hQ hok hsm
 unfold Says
 clear hQ hok hsm h
 go_enter Tryz.func64,Tryz.ntmps64
 go_wp2_with (first
  | (go_at_call 15;refine C.mono ?_;rintro e w1 ⟨rfl,hB1⟩)
  | (go_at_call 113;refine (refused_any _ _).mono ?_;rintro e w2 ⟨rfl,rfl⟩))
 go_ret
 exact ⟨_,rfl,errW_of _,hB1⟩
theorem pattern_any (hX:IsP W q.p) (hok:POk q.p) (hsm:q.p.size ≤ 1048576):Calls Tryz.prog 65 #[.pointer (some ⟨b,0,none⟩)] W fun e w'=>∃ z v,MadeZ q.p z∧e = .returned v∧ErrW z v∧Below W.heap.size W w':=by
 obtain ⟨d1,d2,d3,d4,d5,d6⟩:=h.node.at1
 have C:=madeP_any q.p W hX hsm hok
 clear hX hok hsm h
 go_enter Tryz.func65,Tryz.ntmps65
 go_wp2_with (first
  | (go_at_call 16;refine C.mono ?_;rintro e w1 ⟨z,rfl,hz,hB1⟩)
  | (go_at_call 113;refine (refused_any _ _).mono ?_;rintro e w2 ⟨rfl,rfl⟩))
 go_ret
 exact ⟨_,_,hz,rfl,errW_of _,hB1⟩
theorem tailW_any (hX:IsP W q.p) (hsm:q.p.size ≤ 1048576):Calls Tryz.prog 66 #[.pointer (some ⟨b,0,none⟩)] W fun e w'=>∃ z v,(z = 4 ∨ z = 0)∧(z = 4 ↔ (∃ i,HasTail q.p i)∧q.win = 0)∧e = .returned v∧ErrW z v∧Below W.heap.size W w':=by
 obtain ⟨d1,d2,d3,d4,d5,d6⟩:=h.node.at1
 have hAB:=h
 by_cases hT:∃ i,HasTail q.p i
 · obtain ⟨i,hi⟩:=hT
   have C:=tail_yes q.p i W hX hsm hi
   have HI:=hid hi
   have HAB:=hid hAB
   by_cases hw:q.win = 0
   · have tw:(q.win == 0) = true:=by simp [hw]
     have HW:=hid hw
     clear hX hsm h hAB hi hw
     go_enter Tryz.func66,Tryz.ntmps66
     go_wp2_with (first
      | (go_at_call 19;refine C.mono ?_;rintro e w1 ⟨y,rfl,-,-,-,hB1⟩;obtain ⟨D,V,hD,hDb,hDV,hDB,hDn,hDs⟩:=boxP_put y w1;obtain ⟨⟨g0,g1,g2,g3,g4,g5⟩,f0,f1,f2,f3,f4,f5⟩:=zero_cells hDb;obtain ⟨-,-,-,k10,-⟩:=((HAB.out.later hB1).later hDB).rest;have HV:Hid (Below W.heap.size W V):=hB1.trans (hDB.mono hB1.size);clear hDb hDn hDs hDB)
      | (go_at_call 111;refine (refusedIf_any true 4 _).mono ?_;rintro e w2 ⟨rfl,rfl⟩))
     go_ret
     exact ⟨4,_,.inl rfl,⟨fun _=>⟨⟨i,HI.out⟩,HW.out⟩,fun _=>rfl⟩,rfl,.inr ⟨by decide,.base 4,rfl,rfl⟩,HV.out⟩
   · have tw:(q.win == 0) = false:=by simp [hw]
     have HW:=hid hw
     clear hX hsm h hAB hi hw
     go_enter Tryz.func66,Tryz.ntmps66
     go_wp2_with (first
      | (go_at_call 19;refine C.mono ?_;rintro e w1 ⟨y,rfl,-,-,-,hB1⟩;obtain ⟨D,V,hD,hDb,hDV,hDB,hDn,hDs⟩:=boxP_put y w1;obtain ⟨⟨g0,g1,g2,g3,g4,g5⟩,f0,f1,f2,f3,f4,f5⟩:=zero_cells hDb;obtain ⟨-,-,-,k10,-⟩:=((HAB.out.later hB1).later hDB).rest;have HV:Hid (Below W.heap.size W V):=hB1.trans (hDB.mono hB1.size);clear hDb hDn hDs hDB)
      | (go_at_call 111;refine (refusedIf_any false 4 _).mono ?_;rintro e w2 ⟨rfl,rfl⟩))
     go_ret
     exact ⟨0,_,.inr rfl,⟨fun h=>absurd h (by decide),fun h=>absurd h.2 HW.out⟩,rfl,.inl ⟨rfl,rfl⟩,HV.out⟩
 · have C:=tail_no q.p W hX (fun i hi=>hT ⟨i,hi⟩)
   have HT:=hid hT
   have HAB:=hid hAB
   clear hX hsm h hAB hT
   go_enter Tryz.func66,Tryz.ntmps66
   go_wp2_with (first
    | (go_at_call 19;refine C.mono ?_;rintro e w1 ⟨rfl,hB1⟩;obtain ⟨D,V,hD,hDb,hDV,hDB,hDn,hDs⟩:=boxP_put .nil w1;obtain ⟨⟨g0,g1,g2,g3,g4,g5⟩,f0,f1,f2,f3,f4,f5⟩:=zero_cells hDb;have HV:Hid (Below W.heap.size W V):=hB1.trans (hDB.mono hB1.size);clear hDb hDn hDs hDB)
    | (go_at_call 111;refine (refusedIf_any false 4 _).mono ?_;rintro e w2 ⟨rfl,rfl⟩))
   go_ret
   exact ⟨0,_,.inr rfl,⟨fun h=>absurd h (by decide),fun h=>absurd h.1 HT.out⟩,rfl,.inl ⟨rfl,rfl⟩,by have h9:=HV.out;rw [← hDV] at h9;exact h9⟩
end
open Go.Shelf
attribute [local go_sem] Oper.semAt_some
abbrev downWV (By Bd:Nat):Value:=.func (.func 90) #[] #[.pointer (some ⟨By,0,none⟩),.pointer (some ⟨Bd,0,none⟩)]
theorem downW_any {ι:Type} (l By Bd:Nat) (kids:ι→Nat) (kid:ι→Nat→ι) (rank:ι→Nat)
 (Mid Gone:ι→World→Option Addr→Nat→Nat→World→Prop) (Post:ι→World→World→Prop)
 (hrank:∀ v i,i < kids v→rank (kid v i) < rank v)
 (hdr:∀ v W a cap i Wi,Mid v W a cap i Wi→Mid v W a cap i Wi.drew)
 (hL:∀ v W a cap i Wi,Mid v W a cap i Wi→kids v ≤ 9223372036854775807∧Wi.cell? ⟨By,0,none⟩ = some (.func (.yield l) #[] #[]))
 (hY:∀ v W a cap i Wi,Mid v W a cap i Wi→i < kids v→∃ b o,a = some ⟨b,o,none⟩∧YieldAt Fence.wide 0 Tryz.prog l #[.pointer (some ⟨b,o + i * 6,none⟩)] Wi fun e W'=>e = .returned (.bool true)∧Gone v W a cap i W')
 (hC:∀ v W a cap i Wi,Gone v W a cap i Wi→∃ b o a' cap',a = some ⟨b,o,none⟩∧Wi.cell? ⟨b,o + i * 6 + 5,none⟩ = some (.slice a' (kids (kid v i)) cap')∧Wi.cell? ⟨Bd,0,none⟩ = some (downWV By Bd)∧Mid (kid v i) Wi a' cap' 0 Wi ∧
   (∀ W',Post (kid v i) Wi W'→Mid v W a cap (i + 1) W'))
 (hE:∀ v W a cap Wi,Mid v W a cap (kids v) Wi→Post v W Wi) :
 ∀ (r:Nat) (v:ι),rank v < r→∀ (n:Nat) (a:Option Addr) (cap:Nat) (W:World),Mid v W a cap 0 W →
   CallsIn Fence.wide n Tryz.prog 90 #[.slice a (kids v) cap,.pointer (some ⟨By,0,none⟩),.pointer (some ⟨Bd,0,none⟩)] W fun e W'=>e = .returned (.bool true)∧Post v W W':=by
 intro r
 induction r with
 | zero=>intro v h;omega
 | succ r ih =>
   intro v hv n a cap W hpre
   have hdd:∀ k:Nat,(Fence.wide.depth.isSome = true→1 ≤ k):=fun k h=>by cases h
   obtain ⟨hn0,-⟩:=hL v W a cap 0 W hpre
   refine callsIn_of_wp Tryz.func90 rfl trivial ?_ rfl
   simp only [Tryz.ntmps90,List.size_toArray,List.length_cons,List.length_nil,Nat.reduceAdd,Nat.reduceSub,Array.replicate_succ,Array.replicate_zero,List.push_toArray,List.append_toArray,List.nil_append,List.cons_append]
   gi_wp2
   gi_loopw [8] (fun u wr=>∃ i:Nat,i ≤ kids v∧u = .int .i64 i∧Mid v W a cap i wr) (fun u _=>kids v - (intOf u).toNat)
   case atStart=>exact ⟨0,Nat.zero_le _,rfl,hpre⟩
   case round =>
    obtain ⟨i,hi,rfl,hmi⟩:=hrel
    by_cases hin:i < kids v
    · have hmd:=hdr v W a cap i wr hmi
      obtain ⟨-,hby⟩:=hL v W a cap i _ hmd
      obtain ⟨b,o,rfl,hyy⟩:=hY v W a cap i _ hmd hin
      obtain ⟨fn,tmps,assign,body,hy,hR⟩:=yield_wide (n - 1) hyy
      clear hyy
      have HQ:=hid hin
      gi_wp2
      gi_region_with (first
       | ((try refine ⟨hdd _,?_⟩);refine hR.mono ?_;clear hR;rintro e W1 ⟨rfl,hm⟩;obtain ⟨b1,o1,a',cap',hab,hc5,hcd,hpk,hpost⟩:=hC v W _ cap i W1 hm;cases hab
          have ihc:=ih (kid v i) (by have:=hrank v i HQ.out;omega) (n - 1) a' cap' W1 hpk)
       | (refine ⟨trivial,hdd _,?_⟩;gi_at_call 90;refine ihc.mono ?_;clear ihc;rintro e W2 ⟨rfl,hj⟩))
      all_goals gi_wp2
      all_goals exact ⟨⟨i + 1,HQ.out,by simp,hpost _ hj⟩,by have:=HQ.out;simp [intOf];omega⟩
    · have hin':i = kids v:=by omega
      subst hin'
      gi_wp2
      go_ret
      exact ⟨rfl,hE _ _ _ _ _ hmi⟩
end Go.Proofs.YtkfpgkohkhhlhaaGreatDoor
