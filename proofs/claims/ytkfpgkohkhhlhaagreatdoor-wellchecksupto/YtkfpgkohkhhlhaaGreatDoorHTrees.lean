/- Texts that the last one stands on. -/
import Derived.Test.YtkfpgkohkhhlhaaGreatDoorHExprRange
import Derived.Shelf.Abstract
import Derived.Shelf.RegionOpen
import Derived.OwnWalkIn
import Derived.TacticsInMore
import Derived.LoopNIn
import Derived.LoopIn
import Derived.Test.YtkfpgkohkhhlhaaGreatDoorRows
import Derived.SizedLaws
import Derived.WalkLawsBesides
import Derived.WalkSpells
import Derived.OpenShut
import Derived.Deep.LoopGhost
import Derived.Outline
import Derived.Laws.CopyOwn
import Derived.Laws.AppendOwn
import Derived.Laws.BytesString
import Derived.Laws.IdiomStrings
import Derived.Laws.RangeAny
import Derived.OwnWalk
import Derived.Lib.AppendStr
import Derived.Deep.RegionWith
import Derived.LoopN
set_option maxRecDepth 100000
set_option maxHeartbeats 4000000
namespace Go.Proofs.YtkfpgkohkhhlhaaGreatDoor
open Go.RowKit Go.Shelf
theorem alloc_old {w:World} {o:Obj} {r:Nat} (h:r < w.heap.size):(w.alloc o).heap[r]? = w.heap[r]?:=Below.heap_alloc w o r h
theorem alloc_new (w:World) (o:Obj):(w.alloc o).heap[w.heap.size]? = some o:=World.alloc_heap_new w o
theorem alloc2_new (w:World) (A B:Obj):((w.alloc A).alloc B).heap[w.heap.size+1]? = some B:=by
 have h:=World.alloc_heap_new (w.alloc A) B
 rwa [World.size_alloc] at h
def sumN (f:Nat→Nat):Nat→Nat
 | 0=>0
 | n+1=>sumN f n+f n
def maxN (f:Nat→Nat):Nat→Nat
 | 0=>0
 | n+1=>max (maxN f n) (f n)
theorem sumN_le {f:Nat→Nat}:∀ {n i:Nat},i < n→f i≤sumN f n
 | 0,_,h=>by omega
 | n+1,i,h=>by
   simp only [sumN]
   by_cases e:i=n
   · subst e;omega
   · have:=sumN_le (f:=f) (show i < n by omega);omega
theorem round_wide {m m':Nat} {P:Program} {l:Nat} {f:FuncId} {tmps:Array Value} {assign body:Code} {w:World} {R:Ending→World→Prop}
 (h:RoundIn Fence.wide m P l f tmps assign body w R):RoundIn Fence.wide m' P l f tmps assign body w R:=⟨h.1,fun c cs _=>h.2 c cs (fun d h=>by cases h)⟩
theorem yield_wide {m:Nat} (m':Nat) {P:Program} {l:Nat} {args:Array Value} {W:World} {R:Ending→World→Prop} (h:YieldAt Fence.wide m P l args W R):YieldAt Fence.wide m' P l args W R:=by
 obtain ⟨fn,tmps,assign,body,hy,hR⟩:=h
 exact ⟨fn,tmps,assign,body,hy,round_wide hR⟩
def catN {α:Type} (f:Nat→List α):Nat→List α
 | 0=>[]
 | n+1=>catN f n ++ f n
theorem catN_len {α:Type} (f:Nat→List α):∀ {n i:Nat},i < n→(catN f i).length+(f i).length≤(catN f n).length
 | 0,_,h=>by omega
 | n+1,i,h=>by
   simp only [catN,List.length_append]
   by_cases e:i=n
   · subst e;omega
   · have:=catN_len f (show i < n by omega);omega
theorem mem_catN {α:Type} {f:Nat→List α} {y:α}:∀ {n:Nat},y ∈ catN f n ↔ ∃ i,i < n∧y ∈ f i
 | 0=>by simp [catN]
 | n+1=>by
   rw [catN,List.mem_append,mem_catN]
   constructor
   · rintro (⟨i,hi,h⟩ | h)
     · exact ⟨i,by omega,h⟩
     · exact ⟨n,by omega,h⟩
   · rintro ⟨i,hi,h⟩
     by_cases e:i=n
     · exact .inr (e ▸ h)
     · exact .inl ⟨i,by omega,h⟩
def Kp (T:Nat→Prop) (W W':World):Prop:=∀ (k:Nat) (o:Obj),T k→o.isCells=true→W.heap[k]? = some o→W'.heap[k]? = some o
theorem Kp.refl (T:Nat→Prop) (W:World):Kp T W W:=fun _ _ _ _ h=>h
theorem Kp.trans {T:Nat→Prop} {A B C:World} (h:Kp T A B) (g:Kp T B C):Kp T A C:=fun k o hk ho e=>g k o hk ho (h k o hk ho e)
theorem Kp.cell {T:Nat→Prop} {W W':World} (h:Kp T W W') {p:Addr} {v:Value} (hp:T p.block) (hc:W.cell? p=some v):W'.cell? p=some v:=by
 obtain ⟨o,ho,hi⟩:=cells_of_cell hc
 rw [World.cell?_of_block (w:=W) (w':=W') ((h _ _ hp hi ho).trans ho.symm)]
 exact hc
theorem Kp.ag {B:Nat} {T:Nat→Prop} {W A A' W':World} (h:Ag B W A) (h':Ag B A' W') (g:Kp T A A'):Kp T W W':=fun k o hk ho e=>(h'.cells k o ho).2 (g k o hk ho ((h.cells k o ho).2 e))
theorem Kp.mono {T T':Nat→Prop} {W W':World} (h:Kp T W W') (hT:∀ k,T' k→T k):Kp T' W W':=fun k o hk=>h k o (hT k hk)
theorem Kp.of_below {n:Nat} {T:Nat→Prop} {W W':World} (h:Below n W W') (hT:∀ k,T k→k < n):Kp T W W':=fun k _ hk _ e=>(h.block k (hT k hk)).trans e
theorem Kp.boxed {T:Nat→Prop} {W W':World} (h:Kp T W W') {b:Nat} {t:TypeId} {v:Value} (hp:T b) (hb:Boxed W b t v):Boxed W' b t v:=h b _ hp rfl hb
theorem Boxed.kept_of {W W':World} {n B:Nat} {t:TypeId} {v:Value} (h:Boxed W B t v) (hB:Below n W W') (hn:B < n):Boxed W' B t v:=(hB.block B hn).trans h
theorem Kp.set {T:Nat→Prop} {W:World} {b o:Nat} (v:Value) (h:¬ T b):Kp T W (W.setCell ⟨b,o,none⟩ v):=fun k _ hk _ e=>(Below.heap_setCell W ⟨b,o,none⟩ v k (fun he=>h (by have he':k=b:=he;rw [← he'];exact hk))).trans e
def cnt:Nat→Int
 | 0=>0
 | n+1=>wrap64 (cnt n+1)
def accZ (f:Nat→Int):Nat→Int
 | 0=>1
 | n+1=>wrap64 (accZ f n+f n)
theorem heap_set {W:World} {b o:Nat} {v:Value} {c:Array Value} {t:TypeId} (h:W.heap[b]? = some (.cells c t (0,0))):(W.setCell ⟨b,o,none⟩ v).heap[b]? = some (.cells (c.setIfInBounds o v) t (0,0)):=by
 simp only [World.setCell,Array.getElem?_modify,if_pos,h]
 rfl
theorem maxN_le {f:Nat→Nat}:∀ {n i:Nat},i < n→f i≤maxN f n
 | 0,_,h=>by omega
 | n+1,i,h=>by
   simp only [maxN]
   by_cases e:i=n
   · subst e;omega
   · have:=maxN_le (f:=f) (show i < n by omega);omega
theorem own_laterS {w w':World} {B e size n:Nat} {v:Value} {xs:List Value} (h:w.ownsRow B e size v n xs) (hb:Below w.heap.size w w'):w'.ownsRow B e size v n xs :=
 h.kept (row:=none) ⟨hb.os,hb.tape,hb.output,hb.size,fun k hk _=>hb.block k hk⟩ (Classical.em _)
def foldPost (B:Nat) (T:Nat→Prop) (J:World→Prop) (Jx:Code→World→Prop) (W:World):Exit→Act→World→Prop
 | .normal,_,W'=>KeepsFrom B W W'∧Kp T W W'∧J W'
 | .ret,_,W'=>KeepsFrom B W W'∧Jx .ret W'
 | .exit id,_,W'=>KeepsFrom B W W'∧Jx (.exit id) W'
 | .goto t,_,W'=>KeepsFrom B W W'∧Jx (.goto t) W'
 | .panic _,_,_=>False
 | .outgrown,_,_=>False
def walkPost (B:Nat) (G:World→Prop) (W:World):Exit→Act→World→Prop
 | .normal,_,W'=>KeepsFrom B W W'∧Kp (fun k=>k=B+2 ∨ k=B+3) W W'∧G W'
 | _,_,_=>False
structure Got (ι:Type) where
 d:Int
 b:Nat
 o:Nat
 v:ι
theorem sumN_part {f:Nat→Nat}:∀ {n i:Nat},i < n→sumN f i+f i≤sumN f n
 | 0,_,h=>by omega
 | n+1,i,h=>by
   simp only [sumN]
   by_cases e:i=n
   · subst e;omega
   · have:=sumN_part (f:=f) (show i < n by omega);omega
theorem wpOp_append_at {P:Program} {w w':World} {o:Oper} {a:Act} {K:Act→World→Prop} {Q:Exit→Act→World→Prop} (s x:Operand) (t:TypeId)
 (hop:o.op=Op.call { callee:=Callee.builtin Builtin.append,args:=#[s,x],argTypes:=#[t,t] }) (v y v':Value) (hs:a.eval s=v) (hx:a.eval x=y)
 (hrun:(Builtin.append_ #[t,t] o.type #[v,y]).run P w=.ok v' w') (hK:K (a.put o.dst v') w'):Oper.wp P o a w K Q:=by
 unfold Oper.wp
 simp [execOp,hop,resolve,invoke,builtin,hs,hx,hrun,Result.andThen]
 exact hK
theorem cell_later {w w':World} {p:Addr} {v:Value} (h:w.cell? p=some v) (b:Below w.heap.size w w'):w'.cell? p=some v:=by
 rw [b.cell (World.block_lt_of_cell? w _ h),h]
theorem ret_int {k:IntKind} {a b:Int} (h:a=b):Ending.returned (.int k a)=.returned (.int k b):=by rw [h]
theorem ret_bool {a b:Bool} (h:a=b):Ending.returned (.bool a)=.returned (.bool b):=by rw [h]
def intOf:Value→Int | .int _ q=>q | _=>0
theorem wpList_append_run {P:Program} {w w':World} {ops:Array Oper} {rest:List Oper} {o:Oper} {a:Act} {Q:Exit→Act→World→Prop} (hg:o.guard=none) (s x:Operand) (t:TypeId)
 (hop:o.op=Op.call { callee:=Callee.builtin Builtin.append,args:=#[s,x],argTypes:=#[t,t] }) (v y v':Value) (hs:a.eval s=v) (hx:a.eval x=y)
 (hrun:(Builtin.append_ #[t,t] o.type #[v,y]).run P w=.ok v' w') (hK:wpList P ops Q rest (a.put o.dst v') w'):wpList P ops Q (o :: rest) a w:=by
 refine wpList_plain hg fun K hK'=>?_
 unfold Oper.wp
 simp [execOp,hop,resolve,invoke,builtin,hs,hx,hrun,Result.andThen]
 exact hK' _ _ hK
def bytesS (s:ByteArray):List Int:=s.data.toList.map fun b=>(b.toNat:Int)
theorem bytesS_bd (s:ByteArray):∀ c ∈ bytesS s,0≤c∧c≤255:=by
 intro c hc
 obtain ⟨b,_,rfl⟩:=List.mem_map.1 hc
 have:=b.toNat_lt
 omega
def byteAt (s:ByteArray) (k:Nat):Int:=(bytesS s)[k]?.getD 0
theorem byteAt_get (s:ByteArray) (k:Nat) (h:k < s.size):((s[k]'h).toNat:Int)=byteAt s k:=by
 have h':k < s.data.size:=h
 have e:s.data[k]? = some (s.data[k]'h'):=Array.getElem?_eq_getElem h'
 simp only [byteAt,bytesS,List.getElem?_map,Array.getElem?_toList,e,Option.map_some,Option.getD_some]
 rfl
theorem byteAt_bd (s:ByteArray) (k:Nat):0≤byteAt s k∧byteAt s k≤255:=by
 unfold byteAt
 by_cases hk:k < (bytesS s).length
 · simpa [hk] using bytesS_bd s _ (List.getElem_mem hk)
 · simp [Nat.not_lt.1 hk]
theorem at_str (s:ByteArray) (k:Nat) (h:k < s.size) (w:World):(Instr.index 9 (.string s) (.int .i64 (k:Int))).run Tryz.prog w=.ok (.int .u8 (byteAt s k)) w:=by
 rw [run_index_string w 9 s .i64 (k:Int) Tryz.underlying9,dif_pos ⟨by omega,by omega⟩]
 have e:=byteAt_get s k h
 simp only [Int.toNat_natCast]
 rw [e]
abbrev valV (k n:Int) (s:ByteArray):Value:=.agg #[.int .i64 k,.int .i64 n,.string s]
abbrev valO (k n:Int) (s:ByteArray):Obj:=.cells #[.int .i64 k,.int .i64 n,.string s] 52
theorem null_any (w:World):Calls Tryz.prog 192 #[] w fun e w'=>e=.returned (valV 0 0 ⟨#[]⟩)∧w'=w.alloc (valO 0 0 ⟨#[]⟩):=by
 go_enter Tryz.func192,Tryz.ntmps192
 go_wp2
 exact bodyPost_ret (v:=valV 0 0 ⟨#[]⟩) (by simp [results,Tryz.results192,go_sem]) rfl ⟨rfl,rfl⟩
theorem int_any (n:Int) (w:World):Calls Tryz.prog 194 #[.int .i64 n] w fun e w'=>e=.returned (valV 2 n ⟨#[]⟩)∧w'=w.alloc (valO 2 n ⟨#[]⟩):=by
 go_enter Tryz.func194,Tryz.ntmps194
 go_wp2
 exact bodyPost_ret (v:=valV 2 n ⟨#[]⟩) (by simp [results,Tryz.results194,go_sem]) rfl ⟨rfl,rfl⟩
theorem bool_any (b:Bool) (w:World):Calls Tryz.prog 193 #[.bool b] w fun e w'=>e=.returned (valV 1 (if b then 1 else 0) ⟨#[]⟩)∧w'=w.alloc (valO 1 (if b then 1 else 0) ⟨#[]⟩):=by
 cases b
 · go_enter Tryz.func193,Tryz.ntmps193
   go_wp2
   exact bodyPost_ret (v:=valV 1 0 ⟨#[]⟩) (by simp [results,Tryz.results193,go_sem]) rfl ⟨rfl,rfl⟩
 · go_enter Tryz.func193,Tryz.ntmps193
   go_wp2
   exact bodyPost_ret (v:=valV 1 1 ⟨#[]⟩) (by simp [results,Tryz.results193,go_sem]) rfl ⟨rfl,rfl⟩
theorem text_short (s:ByteArray) (w:World) (h:¬ 256 < (s.size:Int)):Calls Tryz.prog 195 #[.string s] w fun e w'=>e=.returned (valV 3 0 s)∧w'=w.alloc (valO 3 0 s):=by
 go_enter Tryz.func195,Tryz.ntmps195
 go_wp2
 exact bodyPost_ret (v:=valV 3 0 s) (by simp [results,Tryz.results195,go_sem]) rfl ⟨rfl,rfl⟩
theorem text_long (s:ByteArray) (w:World) (h:256 < (s.size:Int)):Calls Tryz.prog 195 #[.string s] w fun e w'=>e=.returned (valV 0 0 ⟨#[]⟩)∧w'=(w.alloc (valO 0 0 ⟨#[]⟩)).alloc (valO 0 0 ⟨#[]⟩):=by
 go_enter Tryz.func195,Tryz.ntmps195
 go_wp2_with (go_at_call 192;refine (null_any _).mono ?_;rintro e w1 ⟨rfl,rfl⟩)
 exact bodyPost_ret (v:=valV 0 0 ⟨#[]⟩) (by simp [results,Tryz.results195,go_sem]) rfl ⟨rfl,rfl⟩
theorem right_none (k n:Int) (s:ByteArray) (w:World) (h0:(k == 0)=false) (h1:(k == 1)=false) (h2:(k == 2)=false) (h3:(k == 3)=false):Calls Tryz.prog 171 #[valV k n s] w (RV (.bool false) w):=by
 go_enter Tryz.func171,Tryz.ntmps171
 go_wp2
 go_ret
 exact ⟨rfl,nwB w _⟩
theorem below_two (w:World) (o p:Obj):Below w.heap.size w ((w.alloc o).alloc p).drew :=
 ((nwB w _).alloc (by simp) _).drew
theorem below_three (w:World) (o p q:Obj):Below w.heap.size w (((w.alloc o).alloc p).alloc q).drew :=
 (((nwB w _).alloc (by simp) _).alloc (by simp;omega) _).drew
theorem right_null0 (w:World):Calls Tryz.prog 171 #[valV 0 0 ⟨#[]⟩] w (RV (.bool true) w):=by
 go_enter Tryz.func171,Tryz.ntmps171
 go_wp2_with fail
 go_region_with (first | (go_at_call 192;refine (null_any _).mono ?_;rintro e w1 ⟨rfl,rfl⟩))
 all_goals go_wp2
 all_goals go_ret
 all_goals exact ⟨rfl,below_two _ _ _⟩
theorem right_null1 (n:Int) (s:ByteArray) (w:World) (hn:(n == 0)=false):Calls Tryz.prog 171 #[valV 0 n s] w (RV (.bool false) w):=by
 go_enter Tryz.func171,Tryz.ntmps171
 go_wp2_with fail
 go_region_with (first | (go_at_call 192;refine (null_any _).mono ?_;rintro e w1 ⟨rfl,rfl⟩))
 all_goals go_wp2
 all_goals go_ret
 all_goals exact ⟨rfl,below_two _ _ _⟩
theorem right_null2 (s:ByteArray) (w:World) (hs:(s.toList == [])=false):Calls Tryz.prog 171 #[valV 0 0 s] w (RV (.bool false) w):=by
 go_enter Tryz.func171,Tryz.ntmps171
 go_wp2_with fail
 go_region_with (first | (go_at_call 192;refine (null_any _).mono ?_;rintro e w1 ⟨rfl,rfl⟩))
 all_goals go_wp2
 all_goals go_ret
 all_goals exact ⟨rfl,below_two _ _ _⟩
theorem right_bool0 (w:World):Calls Tryz.prog 171 #[valV 1 0 ⟨#[]⟩] w (RV (.bool true) w):=by
 go_enter Tryz.func171,Tryz.ntmps171
 go_wp2_with fail
 go_region_with (first | (go_at_call 193;refine (bool_any _ _).mono ?_;rintro e w1 ⟨rfl,rfl⟩))
 all_goals go_wp2
 all_goals go_ret
 all_goals exact ⟨rfl,below_two _ _ _⟩
theorem right_bool1 (w:World):Calls Tryz.prog 171 #[valV 1 1 ⟨#[]⟩] w (RV (.bool true) w):=by
 go_enter Tryz.func171,Tryz.ntmps171
 go_wp2_with fail
 go_region_with (first | (go_at_call 193;refine (bool_any _ _).mono ?_;rintro e w1 ⟨rfl,rfl⟩))
 all_goals go_wp2
 all_goals go_ret
 all_goals exact ⟨rfl,below_two _ _ _⟩
theorem right_bool2 (s:ByteArray) (w:World) (hs:(s.toList == [])=false):Calls Tryz.prog 171 #[valV 1 0 s] w (RV (.bool false) w):=by
 go_enter Tryz.func171,Tryz.ntmps171
 go_wp2_with fail
 go_region_with (first | (go_at_call 193;refine (bool_any _ _).mono ?_;rintro e w1 ⟨rfl,rfl⟩))
 all_goals go_wp2
 all_goals go_ret
 all_goals exact ⟨rfl,below_two _ _ _⟩
theorem right_bool3 (s:ByteArray) (w:World) (hs:(s.toList == [])=false):Calls Tryz.prog 171 #[valV 1 1 s] w (RV (.bool false) w):=by
 go_enter Tryz.func171,Tryz.ntmps171
 go_wp2_with fail
 go_region_with (first | (go_at_call 193;refine (bool_any _ _).mono ?_;rintro e w1 ⟨rfl,rfl⟩))
 all_goals go_wp2
 all_goals go_ret
 all_goals exact ⟨rfl,below_two _ _ _⟩
theorem right_bool4 (n:Int) (s:ByteArray) (w:World) (hn:(n == 0)=false) (h1:(n == 1)=false):Calls Tryz.prog 171 #[valV 1 n s] w (RV (.bool false) w):=by
 go_enter Tryz.func171,Tryz.ntmps171
 go_wp2_with fail
 go_region_with (first | (go_at_call 193;refine (bool_any _ _).mono ?_;rintro e w1 ⟨rfl,rfl⟩))
 all_goals go_wp2
 all_goals go_ret
 all_goals exact ⟨rfl,below_two _ _ _⟩
theorem right_int0 (n:Int) (w:World):Calls Tryz.prog 171 #[valV 2 n ⟨#[]⟩] w (RV (.bool true) w):=by
 go_enter Tryz.func171,Tryz.ntmps171
 go_wp2_with fail
 go_region_with (first | (go_at_call 194;refine (int_any _ _).mono ?_;rintro e w1 ⟨rfl,rfl⟩))
 all_goals go_wp2
 all_goals go_ret
 all_goals exact ⟨rfl,below_two _ _ _⟩
theorem right_int1 (n:Int) (s:ByteArray) (w:World) (hs:(s.toList == [])=false):Calls Tryz.prog 171 #[valV 2 n s] w (RV (.bool false) w):=by
 go_enter Tryz.func171,Tryz.ntmps171
 go_wp2_with fail
 go_region_with (first | (go_at_call 194;refine (int_any _ _).mono ?_;rintro e w1 ⟨rfl,rfl⟩))
 all_goals go_wp2
 all_goals go_ret
 all_goals exact ⟨rfl,below_two _ _ _⟩
open Go
def cmpI (a b:Int):Int:=if a < b then -1 else if b < a then 1 else 0
def cmpS (s t:ByteArray):Int:=if Op.bytesLess s.toList t.toList then -1 else if s.toList == t.toList then 0 else 1
def ordZ (k n:Int) (s:ByteArray) (k' n':Int) (s':ByteArray):Int :=
 if cmpI k k' ≠ 0 then cmpI k k' else if cmpI n n' ≠ 0 then cmpI n n' else cmpS s s'
theorem nanInt (a:Int) (w:World):Calls Tryz.prog 209 #[.int .i64 a] w fun e w'=>e=.returned (.bool false)∧w'=w:=by
 go_enter Tryz.func209,Tryz.ntmps209
 go_wp2
 go_ret
 exact ⟨rfl,rfl⟩
theorem nanInt64 (a:Int) (w:World):Calls Tryz.prog 217 #[.int .i64 a] w fun e w'=>e=.returned (.bool false)∧w'=w:=by
 go_enter Tryz.func217,Tryz.ntmps217
 go_wp2
 go_ret
 exact ⟨rfl,rfl⟩
theorem nanStr (a:ByteArray) (w:World):Calls Tryz.prog 191 #[.string a] w fun e w'=>e=.returned (.bool false)∧w'=w:=by
 go_enter Tryz.func191,Tryz.ntmps191
 go_wp2
 go_ret
 exact ⟨rfl,rfl⟩
theorem cmpInt_any (a b:Int) (w:World):Calls Tryz.prog 197 #[.int .i64 a,.int .i64 b] w fun e w'=>e=.returned (.int .i64 (cmpI a b))∧w'=w:=by
 unfold cmpI
 by_cases h:a < b
 · rw [if_pos h]
   go_enter Tryz.func197,Tryz.ntmps197
   go_wp2_with (go_at_call 209;refine (nanInt _ _).mono ?_;rintro e w1 ⟨rfl,hw1⟩;replace hw1:=hw1.symm;subst hw1)
   go_ret
   exact ⟨rfl,rfl⟩
 · rw [if_neg h]
   by_cases h':b < a
   · rw [if_pos h']
     go_enter Tryz.func197,Tryz.ntmps197
     go_wp2_with (go_at_call 209;refine (nanInt _ _).mono ?_;rintro e w1 ⟨rfl,hw1⟩;replace hw1:=hw1.symm;subst hw1)
     go_ret
     exact ⟨rfl,rfl⟩
   · rw [if_neg h']
     go_enter Tryz.func197,Tryz.ntmps197
     go_wp2_with (go_at_call 209;refine (nanInt _ _).mono ?_;rintro e w1 ⟨rfl,hw1⟩;replace hw1:=hw1.symm;subst hw1)
     go_ret
     exact ⟨rfl,rfl⟩
theorem cmpInt64_any (a b:Int) (w:World):Calls Tryz.prog 210 #[.int .i64 a,.int .i64 b] w fun e w'=>e=.returned (.int .i64 (cmpI a b))∧w'=w:=by
 unfold cmpI
 by_cases h:a < b
 · rw [if_pos h]
   go_enter Tryz.func210,Tryz.ntmps210
   go_wp2_with (go_at_call 217;refine (nanInt64 _ _).mono ?_;rintro e w1 ⟨rfl,hw1⟩;replace hw1:=hw1.symm;subst hw1)
   go_ret
   exact ⟨rfl,rfl⟩
 · rw [if_neg h]
   by_cases h':b < a
   · rw [if_pos h']
     go_enter Tryz.func210,Tryz.ntmps210
     go_wp2_with (go_at_call 217;refine (nanInt64 _ _).mono ?_;rintro e w1 ⟨rfl,hw1⟩;replace hw1:=hw1.symm;subst hw1)
     go_ret
     exact ⟨rfl,rfl⟩
   · rw [if_neg h']
     go_enter Tryz.func210,Tryz.ntmps210
     go_wp2_with (go_at_call 217;refine (nanInt64 _ _).mono ?_;rintro e w1 ⟨rfl,hw1⟩;replace hw1:=hw1.symm;subst hw1)
     go_ret
     exact ⟨rfl,rfl⟩
theorem cmpStr_any (a b:ByteArray) (w:World):Calls Tryz.prog 199 #[.string a,.string b] w fun e w'=>e=.returned (.int .i64 (cmpS a b))∧w'=w:=by
 unfold cmpS
 cases h:Op.bytesLess a.toList b.toList with
 | true =>
   rw [if_pos rfl]
   go_enter Tryz.func199,Tryz.ntmps199
   go_wp2_with (go_at_call 191;refine (nanStr _ _).mono ?_;rintro e w1 ⟨rfl,hw1⟩;replace hw1:=hw1.symm;subst hw1)
   go_ret
   exact ⟨rfl,rfl⟩
 | false =>
   rw [if_neg (by simp)]
   cases h':a.toList == b.toList with
   | true =>
     rw [if_pos rfl]
     go_enter Tryz.func199,Tryz.ntmps199
     go_wp2_with (go_at_call 191;refine (nanStr _ _).mono ?_;rintro e w1 ⟨rfl,hw1⟩;replace hw1:=hw1.symm;subst hw1)
     go_ret
     exact ⟨rfl,rfl⟩
   | false =>
     rw [if_neg (by simp)]
     go_enter Tryz.func199,Tryz.ntmps199
     go_wp2_with (go_at_call 191;refine (nanStr _ _).mono ?_;rintro e w1 ⟨rfl,hw1⟩;replace hw1:=hw1.symm;subst hw1)
     go_ret
     exact ⟨rfl,rfl⟩
theorem or_three (b:Nat) (x y z:Int) (w:World) (c0:w.cell? ⟨b,0,none⟩=some (.int .i64 x)) (c1:w.cell? ⟨b,1,none⟩=some (.int .i64 y)) (c2:w.cell? ⟨b,2,none⟩=some (.int .i64 z)) :
 Calls Tryz.prog 196 #[.slice (some ⟨b,0,none⟩) 3 3] w fun e w'=>e=.returned (.int .i64 (if x ≠ 0 then x else if y ≠ 0 then y else z))∧w'=w:=by
 by_cases hx:x=0
 · subst hx
   by_cases hy:y=0
   · subst hy
     by_cases hz:z=0
     · subst hz
       simp only [ne_eq,not_true_eq_false,if_false]
       go_enter Tryz.func196,Tryz.ntmps196
       go_wp2
       refine wp_loop_rounds 4 ?_
       rw [rounds_succ];go_wp2
       rw [rounds_succ];go_wp2
       rw [rounds_succ];go_wp2
       rw [rounds_succ];go_wp2
       go_ret
       exact ⟨rfl,rfl⟩
     · have hz':(z == 0)=false:=by simpa using hz
       simp only [ne_eq,not_true_eq_false,if_false]
       go_enter Tryz.func196,Tryz.ntmps196
       go_wp2
       refine wp_loop_rounds 3 ?_
       rw [rounds_succ];go_wp2
       rw [rounds_succ];go_wp2
       rw [rounds_succ];go_wp2
       go_ret
       exact ⟨rfl,rfl⟩
   · have hy':(y == 0)=false:=by simpa using hy
     simp only [ne_eq,not_true_eq_false,if_false,hy,not_false_eq_true,if_true]
     go_enter Tryz.func196,Tryz.ntmps196
     go_wp2
     refine wp_loop_rounds 2 ?_
     rw [rounds_succ];go_wp2
     rw [rounds_succ];go_wp2
     go_ret
     exact ⟨rfl,rfl⟩
 · have hx':(x == 0)=false:=by simpa using hx
   simp only [ne_eq,hx,not_false_eq_true,if_true]
   go_enter Tryz.func196,Tryz.ntmps196
   go_wp2
   refine wp_loop_rounds 1 ?_
   rw [rounds_succ];go_wp2
   go_ret
   exact ⟨rfl,rfl⟩
theorem order_any (k n:Int) (s:ByteArray) (k' n':Int) (s':ByteArray) (w:World) :
 Calls Tryz.prog 198 #[valV k n s,valV k' n' s'] w (RV (.int .i64 (ordZ k n s k' n' s')) w):=by
 go_enter Tryz.func198,Tryz.ntmps198
 go_wp2_with fail
 have hW0:Below w.heap.size w ((w.alloc (valO k n s)).alloc (valO k' n' s')):=(nwB w _).alloc (by simp) _
 have HC:Hid ((((w.alloc (valO k n s)).alloc (valO k' n' s')).cell? ⟨w.heap.size,0,none⟩=some (.int .i64 k))∧(((w.alloc (valO k n s)).alloc (valO k' n' s')).cell? ⟨w.heap.size,1,none⟩=some (.int .i64 n))∧(((w.alloc (valO k n s)).alloc (valO k' n' s')).cell? ⟨w.heap.size,2,none⟩=some (.string s)) ∧
  (((w.alloc (valO k n s)).alloc (valO k' n' s')).cell? ⟨w.heap.size+1,0,none⟩=some (.int .i64 k'))∧(((w.alloc (valO k n s)).alloc (valO k' n' s')).cell? ⟨w.heap.size+1,1,none⟩=some (.int .i64 n'))∧(((w.alloc (valO k n s)).alloc (valO k' n' s')).cell? ⟨w.heap.size+1,2,none⟩=some (.string s'))):=by
  refine ⟨?_,?_,?_,?_,?_,?_⟩ <;> simp
 generalize (w.alloc (valO k n s)).alloc (valO k' n' s')=W at hW0 HC ⊢
 refine bg fun d hHeld=>?_
 have hT:=hHeld
 refine tk 0 ?_
 refine tk 1 ?_ (hy:=fun w9 hSw=>by have cc:=cell_later HC.out.1 hSw;go_simp;(try with_reducible rfl))
 refine tk 2 ?_
 refine tk 3 ?_ (hy:=fun w9 hSw=>by have cc:=cell_later HC.out.2.2.2.1 hSw;go_simp;(try with_reducible rfl))
 refine tk 5 ?_
 refine tk 6 ?_ (hy:=fun w9 hSw=>by have cc:=cell_later HC.out.2.1 hSw;go_simp;(try with_reducible rfl))
 refine tk 7 ?_
 refine tk 8 ?_ (hy:=fun w9 hSw=>by have cc:=cell_later HC.out.2.2.2.2.1 hSw;go_simp;(try with_reducible rfl))
 refine tk 10 ?_
 refine tk 11 ?_ (hy:=fun w9 hSw=>by have cc:=cell_later HC.out.2.2.1 hSw;go_simp;(try with_reducible rfl))
 refine tk 12 ?_
 refine tk 13 ?_ (hy:=fun w9 hSw=>by have cc:=cell_later HC.out.2.2.2.2.2 hSw;go_simp;(try with_reducible rfl))
 refine rd 4 fun K hK=>?_
 go_simp
 refine (cmpInt_any _ _ _).mono ?_
 rintro e x4 ⟨rfl,hx4⟩
 replace hx4:=hx4.symm
 subst hx4
 go_wp2_with fail
 refine hK.out _ _ hHeld (fun _=>?_)
 clear hK K
 try simp only [Act.put,s_put,s_0,s_1]
 refine rd 9 fun K hK=>?_
 go_simp
 refine (cmpInt64_any _ _ _).mono ?_
 rintro e x9 ⟨rfl,hx9⟩
 replace hx9:=hx9.symm
 subst hx9
 go_wp2_with fail
 refine hK.out _ _ hHeld (fun _=>?_)
 clear hK K
 try simp only [Act.put,s_put,s_0,s_1]
 refine rd 14 fun K hK=>?_
 go_simp
 refine (cmpStr_any _ _ _).mono ?_
 rintro e x14 ⟨rfl,hx14⟩
 replace hx14:=hx14.symm
 subst hx14
 go_wp2_with fail
 refine hK.out _ _ hHeld (fun _=>?_)
 clear hK K
 try simp only [Act.put,s_put,s_0,s_1]
 refine rd 15 fun K hK=>?_
 go_simp
 have hT15:=hHeld.alloc hHeld.size (.cells #[.int .i64 (cmpI k k'),.int .i64 (cmpI n n'),.int .i64 (cmpS s s')] 3)
 refine hK.out _ _ hT15 (fun _=>?_)
 clear hK K hHeld hT
 have hHeld:=hT15
 clear hT15
 have C16:Calls Tryz.prog 196 #[.slice (some ⟨d.heap.size,0,none⟩) 3 3] (d.alloc (.cells #[.int .i64 (cmpI k k'),.int .i64 (cmpI n n'),.int .i64 (cmpS s s')] 3)) fun e w'=>e=.returned (.int .i64 (ordZ k n s k' n' s'))∧w'=(d.alloc (.cells #[.int .i64 (cmpI k k'),.int .i64 (cmpI n n'),.int .i64 (cmpS s s')] 3)):=or_three d.heap.size (cmpI k k') (cmpI n n') (cmpS s s') _ (by simp) (by simp) (by simp)
 generalize d.alloc (.cells #[.int .i64 (cmpI k k'),.int .i64 (cmpI n n'),.int .i64 (cmpS s s')] 3)=D at hHeld C16 ⊢
 refine rd 16 fun K hK=>?_
 go_simp
 refine (C16).mono ?_
 rintro e x16 ⟨rfl,hx16⟩
 replace hx16:=hx16.symm
 subst hx16
 go_wp2_with fail
 refine hK.out _ _ hHeld (fun _=>?_)
 clear hK K
 try simp only [Act.put,s_put,s_0,s_1]
 refine tk 17 ?_
 refine dn ?_
 go_wp2
 go_ret
 exact ⟨rfl,hW0.trans (hHeld.mono hW0.size)⟩
theorem right_text0 (s:ByteArray) (w:World) (hl:¬ 256 < (s.size:Int)):Calls Tryz.prog 171 #[valV 3 0 s] w (RV (.bool true) w):=by
 have HL:Hid _:=hl
 clear hl
 go_enter Tryz.func171,Tryz.ntmps171
 go_wp2_with fail
 go_region_with (first | (go_at_call 195;refine (text_short _ _ HL.out).mono ?_;rintro e w1 ⟨rfl,rfl⟩))
 all_goals go_wp2
 all_goals go_ret
 all_goals exact ⟨rfl,below_two _ _ _⟩
theorem right_text1 (n:Int) (s:ByteArray) (w:World) (hn:(n == 0)=false) (hl:¬ 256 < (s.size:Int)):Calls Tryz.prog 171 #[valV 3 n s] w (RV (.bool false) w):=by
 have HL:Hid _:=hl
 clear hl
 go_enter Tryz.func171,Tryz.ntmps171
 go_wp2_with fail
 go_region_with (first | (go_at_call 195;refine (text_short _ _ HL.out).mono ?_;rintro e w1 ⟨rfl,rfl⟩))
 all_goals go_wp2
 all_goals go_ret
 all_goals exact ⟨rfl,below_two _ _ _⟩
theorem right_text2 (n:Int) (s:ByteArray) (w:World) (hl:256 < (s.size:Int)):Calls Tryz.prog 171 #[valV 3 n s] w (RV (.bool false) w):=by
 have HL:Hid _:=hl
 clear hl
 go_enter Tryz.func171,Tryz.ntmps171
 go_wp2_with fail
 go_region_with (first | (go_at_call 195;refine (text_long _ _ HL.out).mono ?_;rintro e w1 ⟨rfl,rfl⟩))
 all_goals go_wp2
 all_goals go_ret
 all_goals exact ⟨rfl,below_three _ _ _ _⟩
def rightB (k n:Int) (s:ByteArray):Bool :=
 if k=0 then decide (n=0) && s.toList == []
 else if k=1 then (decide (n=0) || decide (n=1)) && s.toList == []
 else if k=2 then s.toList == []
 else if k=3 then decide (n=0) && decide (s.size≤256)
 else false
theorem empty_str {s:ByteArray} (h:(s.toList == [])=true):s=⟨#[]⟩:=by
 rw [ByteArray.toList_eq] at h
 obtain ⟨⟨x⟩⟩:=s
 cases x with
 | nil=>rfl
 | cons a l=>simp at h
theorem right_any (k n:Int) (s:ByteArray) (w:World):Calls Tryz.prog 171 #[valV k n s] w (RV (.bool (rightB k n s)) w):=by
 unfold rightB
 by_cases h0:k=0
 · subst h0
   rw [if_pos rfl]
   by_cases hn:n=0
   · subst hn
     cases hs:s.toList == [] with
     | true=>obtain rfl:=empty_str hs;simpa using right_null0 w
     | false=>simpa using right_null2 s w hs
   · simpa [hn] using right_null1 n s w (by simpa using hn)
 · rw [if_neg h0]
   by_cases h1:k=1
   · subst h1
     rw [if_pos rfl]
     by_cases hn:n=0
     · subst hn
       cases hs:s.toList == [] with
       | true=>obtain rfl:=empty_str hs;simpa using right_bool0 w
       | false=>simpa using right_bool2 s w hs
     · by_cases hm:n=1
       · subst hm
         cases hs:s.toList == [] with
         | true=>obtain rfl:=empty_str hs;simpa using right_bool1 w
         | false=>simpa using right_bool3 s w hs
       · simpa [hn,hm] using right_bool4 n s w (by simpa using hn) (by simpa using hm)
   · rw [if_neg h1]
     by_cases h2:k=2
     · subst h2
       rw [if_pos rfl]
       cases hs:s.toList == [] with
       | true=>obtain rfl:=empty_str hs;exact right_int0 n w
       | false=>exact right_int1 n s w hs
     · rw [if_neg h2]
       by_cases h3:k=3
       · subst h3
         rw [if_pos rfl]
         by_cases hl:256 < (s.size:Int)
         · have e:decide (s.size≤256)=false:=decide_eq_false (by omega)
           rw [e,Bool.and_false]
           exact right_text2 n s w hl
         · have e:decide (s.size≤256)=true:=decide_eq_true (by omega)
           rw [e,Bool.and_true]
           by_cases hn:n=0
           · subst hn;exact right_text0 s w hl
           · rw [decide_eq_false hn];exact right_text1 n s w (by simpa using hn) hl
       · rw [if_neg h3]
         exact right_none k n s w (by simpa using h0) (by simpa using h1) (by simpa using h2) (by simpa using h3)
theorem less_irrefl:∀ l:List UInt8,Op.bytesLess l l=false
 | []=>rfl
 | a :: l=>by simp [Op.bytesLess,less_irrefl l,UInt8.lt_irrefl]
theorem less_total:∀ l m:List UInt8,l ≠ m→Op.bytesLess l m=!Op.bytesLess m l
 | [],[],h=>absurd rfl h
 | [],b :: m,_=>by simp [Op.bytesLess]
 | a :: l,[],_=>by simp [Op.bytesLess]
 | a :: l,b :: m,h=>by
   simp only [Op.bytesLess]
   by_cases hab:a=b
   · subst hab
     have:=less_total l m (fun e=>h (by rw [e]))
     simp [UInt8.lt_irrefl,this]
   · have hba:¬ b=a:=fun e=>hab e.symm
     have h1:(a == b)=false:=by simpa using hab
     have h2:(b == a)=false:=by simpa using hba
     rw [h1,h2]
     rcases UInt8.lt_or_lt_of_ne hab with h3 | h3
     · simp [h3,UInt8.lt_asymm h3]
     · simp [h3,UInt8.lt_asymm h3]
theorem less_trans:∀ l m r:List UInt8,Op.bytesLess l m=true→Op.bytesLess m r=true→Op.bytesLess l r=true
 | _,[],_,h,_=>by simp [Op.bytesLess] at h
 | _,_ :: _,[],_,h=>by simp [Op.bytesLess] at h
 | [],_ :: _,_ :: _,_,_=>by simp [Op.bytesLess]
 | a :: l,b :: m,c :: r,h1,h2=>by
   simp only [Op.bytesLess,Bool.or_eq_true,decide_eq_true_eq,Bool.and_eq_true,beq_iff_eq] at h1 h2 ⊢
   rcases h1 with h1 | ⟨rfl,h1⟩
   · rcases h2 with h2 | ⟨rfl,h2⟩
     · exact .inl (UInt8.lt_trans h1 h2)
     · exact .inl h1
   · rcases h2 with h2 | ⟨rfl,h2⟩
     · exact .inl h2
     · exact .inr ⟨rfl,less_trans l m r h1 h2⟩
theorem cmpS_cases (s t:ByteArray):(cmpS s t=-1∧Op.bytesLess s.toList t.toList=true∧s.toList ≠ t.toList) ∨ (cmpS s t=0∧s.toList=t.toList) ∨ (cmpS s t=1∧Op.bytesLess t.toList s.toList=true∧s.toList ≠ t.toList):=by
 unfold cmpS
 by_cases h:s.toList=t.toList
 · rw [h];simp [less_irrefl]
 · have:=less_total _ _ h
   cases h1:Op.bytesLess s.toList t.toList with
   | true=>simp [h]
   | false =>
     rw [h1] at this
     have h2:Op.bytesLess t.toList s.toList=true:=by simpa using this
     simp [h,h2]
theorem cmpI_cases (a b:Int):(cmpI a b=-1∧a < b) ∨ (cmpI a b=0∧a=b) ∨ (cmpI a b=1∧b < a):=by
 unfold cmpI
 by_cases h:a < b
 · simp [h]
 · by_cases h':b < a
   · simp [h,h']
   · exact .inr (.inl ⟨by simp [h,h'],by omega⟩)
variable (k n:Int) (s:ByteArray) (k' n':Int) (s':ByteArray) (k2 n2:Int) (s2:ByteArray)
structure Val where
 k:Int
 n:Int
 s:ByteArray
abbrev Val.v (x:Val):Value:=valV x.k x.n x.s
def val0:Val:=⟨0,0,⟨#[]⟩⟩
def idx (Nm:Nat→ByteArray) (s:ByteArray):Nat→Option Nat
 | 0=>none
 | n+1=>match idx Nm s n with
   | some i=>some i
   | none=>if Nm n=s then some n else none
theorem idx_some (Nm:Nat→ByteArray) (s:ByteArray):∀ (n i:Nat),idx Nm s n=some i→i < n∧Nm i=s∧∀ j,j < i→¬ Nm j=s
 | 0,i,h=>by simp [idx] at h
 | n+1,i,h=>by
   simp only [idx] at h
   split at h
   · rename_i j hj
     cases h
     have:=idx_some Nm s n i hj
     exact ⟨by omega,this.2⟩
   · rename_i hj
     split at h
     · rename_i e
       cases h
       refine ⟨by omega,e,?_⟩
       intro j hj' he
       have hnone:∀ m,idx Nm s m=none→∀ j,j < m→¬ Nm j=s:=by
        intro m
        induction m with
        | zero=>intro _ j hj;omega
        | succ m ih =>
          intro hm j hj
          simp only [idx] at hm
          split at hm
          · cases hm
          · rename_i hi
            split at hm
            · cases hm
            · rename_i e2
              by_cases ej:j=m
              · exact ej ▸ e2
              · exact ih hi j (by omega)
       exact hnone n hj j hj' he
     · cases h
theorem idx_none (Nm:Nat→ByteArray) (s:ByteArray):∀ (n:Nat),idx Nm s n=none→∀ j,j < n→¬ Nm j=s
 | 0,_,j,hj=>by omega
 | n+1,h,j,hj=>by
   simp only [idx] at h
   split at h
   · cases h
   · rename_i hi
     split at h
     · cases h
     · rename_i e2
       by_cases ej:j=n
       · exact ej ▸ e2
       · exact idx_none Nm s n hi j (by omega)
theorem idx_at (Nm:Nat→ByteArray) (s:ByteArray) (n i:Nat) (hi:i < n) (he:Nm i=s) (hl:∀ j,j < i→¬ Nm j=s):idx Nm s n=some i:=by
 cases e:idx Nm s n with
 | none=>exact absurd he (idx_none Nm s n e i hi)
 | some k =>
   obtain ⟨_,h2,h3⟩:=idx_some Nm s n k e
   rcases Nat.lt_trichotomy k i with h | h | h
   · exact absurd h2 (hl k h)
   · rw [h]
   · exact absurd he (h3 i h)
end Go.Proofs.YtkfpgkohkhhlhaaGreatDoor
