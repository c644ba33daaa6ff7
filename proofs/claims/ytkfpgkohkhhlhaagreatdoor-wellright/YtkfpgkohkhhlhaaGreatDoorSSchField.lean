/- Texts that the last one stands on. -/
import Derived.Test.YtkfpgkohkhhlhaaGreatDoorSSchBase
import Derived.Test.YtkfpgkohkhhlhaaGreatDoorSVarsMath
import Derived.ProofKit
set_option maxHeartbeats 1000000
namespace Go.Proofs.YtkfpgkohkhhlhaaGreatDoor
open Go.RowKit
theorem find_some (a:Option Addr) (n cap i:Nat) (Nm:Nat→ByteArray) (V:Nat→Value) (s:ByteArray) (w:World) (H:Row2 w a n Nm V) (hn:n ≤ 9223372036854775807) (hi:i < n) (he:Nm i = s) (hl:∀ j,j < i→¬ Nm j = s) :
 Calls Tryz.prog 151 #[.slice a n cap,.string s] w (RV (.tuple #[.int .i64 i,.bool true]) w):=by
 have hB0:Below w.heap.size w (w.alloc (.cells #[.string s] 9)):=nwB _ _
 have H1:=H.later hB0
 have hp:(w.alloc (.cells #[.string s] 9)).cell? ⟨w.heap.size,0,none⟩ = some (.string s):=by rw [World.cell?_alloc_at _ _ _ _ rfl];rfl
 have C:Hid (Calls Tryz.prog 180 _ (w.alloc (.cells #[.string s] 9)) _):=indexS_some a n cap i w.heap.size Nm V s _ H1 hn hp hi he hl
 clear hn hp hi he hl H H1
 go_enter Tryz.func151,Tryz.ntmps151
 go_wp2_with (first | (go_at_call 180;refine C.out.mono ?_;rintro e w1 ⟨rfl,hB1⟩))
 exact bodyPost_ret (v:=.tuple #[.int .i64 i,.bool true]) (by simp [results,Tryz.results151,go_sem]) rfl ⟨rfl,hB0.trans (hB1.mono hB0.size)⟩
theorem find_none (a:Option Addr) (n cap:Nat) (Nm:Nat→ByteArray) (V:Nat→Value) (s:ByteArray) (w:World) (H:Row2 w a n Nm V) (hn:n ≤ 9223372036854775807) (hl:∀ j,j < n→¬ Nm j = s) :
 Calls Tryz.prog 151 #[.slice a n cap,.string s] w (RV (.tuple #[.int .i64 0,.bool false]) w):=by
 have hB0:Below w.heap.size w (w.alloc (.cells #[.string s] 9)):=nwB _ _
 have H1:=H.later hB0
 have hp:(w.alloc (.cells #[.string s] 9)).cell? ⟨w.heap.size,0,none⟩ = some (.string s):=by rw [World.cell?_alloc_at _ _ _ _ rfl];rfl
 have C:Hid (Calls Tryz.prog 180 _ (w.alloc (.cells #[.string s] 9)) _):=indexS_none a n cap w.heap.size Nm V s _ H1 hn hp hl
 clear hn hp hl H H1
 go_enter Tryz.func151,Tryz.ntmps151
 go_wp2_with (first | (go_at_call 180;refine C.out.mono ?_;rintro e w1 ⟨rfl,hB1⟩))
 exact bodyPost_ret (v:=.tuple #[.int .i64 0,.bool false]) (by simp [results,Tryz.results151,go_sem]) rfl ⟨rfl,hB0.trans (hB1.mono hB0.size)⟩
theorem field_some (S:ByteArray) (a:Option Addr) (n cap i:Nat) (Nm:Nat→ByteArray) (K:Nat→Int) (s:ByteArray) (w:World) (H:Flds w a n Nm K) (hn:n ≤ 9223372036854775807) (hi:i < n) (he:Nm i = s) (hl:∀ j,j < i→¬ Nm j = s) :
 Calls Tryz.prog 212 #[schV S (.slice a n cap),.string s] w (RV (.tuple #[.int .i64 i,.int .i64 (K i),.bool true]) w):=by
 have hB0:Below w.heap.size w ((w.alloc (schO S (.slice a n cap))).alloc (.cells #[.string s] 9)):=(nwB _ _).alloc (by simp) _
 have H1:=H.later hB0
 have hp:((w.alloc (schO S (.slice a n cap))).alloc (.cells #[.string s] 9)).cell? ⟨w.heap.size + 1,0,none⟩ = some (.string s):=by rw [World.cell?_alloc_at _ _ _ _ (by simp)];rfl
 have C:Hid (Calls Tryz.prog 218 _ ((w.alloc (schO S (.slice a n cap))).alloc (.cells #[.string s] 9)) _):=indexF_some a n cap i (w.heap.size + 1) Nm K s _ H1 hn hp hi he hl
 have HX:Hid (((w.alloc (schO S (.slice a n cap))).alloc (.cells #[.string s] 9)).cell? ⟨w.heap.size,1,none⟩ = some (.slice a n cap)):=by
  show ((w.alloc (schO S (.slice a n cap))).alloc (.cells #[.string s] 9)).cell? ⟨w.heap.size,1,none⟩ = some (.slice a n cap)
  rw [World.cell?_alloc_past _ _ _ (by simp),World.cell?_alloc_at _ _ _ _ rfl];rfl
 have HR:=hid H1
 clear hp he hl H H1
 go_enter Tryz.func212,Tryz.ntmps212
 go_upto_region 2 with (first | (go_at_call 218;refine C.out.mono ?_;rintro e w1 ⟨rfl,hB1⟩))
 have f1:=cell_later HX.out hB1
 obtain ⟨b,off,rfl,hc⟩:=(HR.out.later hB1) (by omega)
 have f2:=(hc i hi).1.2
 clear hc C HX HR
 go_wp2_with fail
 go_quiet (fail)
 go_wp2
 exact bodyPost_ret (v:=.tuple #[.int .i64 i,.int .i64 (K i),.bool true]) (by simp [results,Tryz.results212,go_sem]) rfl ⟨rfl,bd (bt hB0 hB1) _⟩
theorem field_none (S:ByteArray) (a:Option Addr) (n cap:Nat) (Nm:Nat→ByteArray) (K:Nat→Int) (s:ByteArray) (w:World) (H:Flds w a n Nm K) (hn:n ≤ 9223372036854775807) (hl:∀ j,j < n→¬ Nm j = s) :
 Calls Tryz.prog 212 #[schV S (.slice a n cap),.string s] w (RV (.tuple #[.int .i64 0,.int .i64 0,.bool false]) w):=by
 have hB0:Below w.heap.size w ((w.alloc (schO S (.slice a n cap))).alloc (.cells #[.string s] 9)):=(nwB _ _).alloc (by simp) _
 have H1:=H.later hB0
 have hp:((w.alloc (schO S (.slice a n cap))).alloc (.cells #[.string s] 9)).cell? ⟨w.heap.size + 1,0,none⟩ = some (.string s):=by rw [World.cell?_alloc_at _ _ _ _ (by simp)];rfl
 have C:Hid (Calls Tryz.prog 218 _ ((w.alloc (schO S (.slice a n cap))).alloc (.cells #[.string s] 9)) _):=indexF_none a n cap (w.heap.size + 1) Nm K s _ H1 hn hp hl
 clear hn hp hl H H1
 go_enter Tryz.func212,Tryz.ntmps212
 go_wp2_with (first | (go_at_call 218;refine C.out.mono ?_;rintro e w1 ⟨rfl,hB1⟩))
 exact bodyPost_ret (v:=.tuple #[.int .i64 0,.int .i64 0,.bool false]) (by simp [results,Tryz.results212,go_sem]) rfl ⟨rfl,hB0.trans (hB1.mono hB0.size)⟩
open Go.ChangeShapes Go.WideShapes
section
variable {H:Type} {enc:TypeId × Value→H} {w:World} {base:Nat} {spare:Nat→Bool} {held:Bool}
theorem fld_under:∃ f0 f1:Field,Tryz.prog.underlying 112 = some (.struct #[f0,f1])∧f0.offset = 0∧f1.offset = 1∧f0.type = 9∧f1.type = 3:=⟨_,_,Tryz.underlying112,rfl,rfl,rfl,rfl⟩
theorem sch_under:∃ f0 f1:Field,Tryz.prog.underlying 115 = some (.struct #[f0,f1])∧f0.offset = 0∧f1.offset = 1∧f0.type = 9∧f1.type = 113:=⟨_,_,Tryz.underlying115,rfl,rfl,rfl,rfl⟩
theorem cells_f:Tryz.prog.cellsOf 112 = 2:=by kernel_rfl
theorem cells_h:Tryz.prog.cellsOf 115 = 2:=by kernel_rfl
theorem cells_l:Tryz.prog.cellsOf 113 = 1:=by kernel_rfl
theorem trod_fld {fuel:Nat} {cs:List Value} {x:DataW H × List MemPlace} (h:DataW.trod enc Tryz.prog w base spare held fuel 112 cs = some x) :
 ∃ s k,cs = [.string s,.int .i64 k]∧s.size ≤ maxLen:=by
 obtain ⟨f0,f1,hu,o0,o1,t0,t1⟩:=fld_under
 obtain ⟨y0,y1,m,rfl,hl,g0,g1⟩:=trod_struct2 hu h
 rw [cells_f] at hl
 rw [o0,t0,cells_s] at g0
 rw [o1,t1,cells_i] at g1
 match cs,hl with
 | [c0,c1],_ =>
   obtain ⟨s,e0,rfl,w0⟩:=DataW.trod_string Tryz.underlying9 g0
   obtain ⟨k,e1,rfl,_⟩:=DataW.trod_int Tryz.underlying3 g1
   simp at e0 e1
   subst e0 e1
   exact ⟨s,k,rfl,w0⟩
theorem addr_two (b off i:Nat):(⟨b,off,none⟩:Addr).add i = ⟨b,off + i,none⟩:=by unfold Addr.add;split <;> simp_all
theorem trod_flds {fuel:Nat} {cs:List Value} {x:DataW H × List MemPlace} (h:DataW.trod enc Tryz.prog w base spare held fuel 113 cs = some x) :
 ∃ a len cap Nm K,cs = [.slice a len cap]∧Flds w a len Nm K∧len ≤ 9223372036854775807:=by
 rcases Deep.open_slice Tryz.underlying113 h with ⟨rfl,_⟩ | ⟨x,len,cap,m,n,D,Pl,rfl,_,hl,hcm,hmm,_,hx⟩
 · exact ⟨none,0,0,fun _=>⟨#[]⟩,fun _=>0,rfl,fun h=>by omega,by omega⟩
 · have hlm:len ≤ m:=by rw [hmm];split <;> omega
   have each:∀ i,i < m→∃ q:ByteArray × Int,w.cell? (x.add (i * 2)) = some (.string q.1)∧w.cell? (x.add (i * 2 + 1)) = some (.int .i64 q.2)∧q.1.size ≤ maxLen:=by
    intro i hi
    obtain ⟨cs',h1,h2⟩:=hx i hi
    rw [cells_f] at h1
    obtain ⟨_,hlen,hcell⟩:=World.cells?_some h1
    obtain ⟨s,k,rfl,w0⟩:=trod_fld h2
    have e0:=hcell 0 (by omega)
    have e1:=hcell 1 (by omega)
    rw [Deep.add_add] at e0 e1
    exact ⟨(s,k),by simpa using e0,by simpa using e1,w0⟩
   obtain ⟨q,hq⟩:=Deep.choose_lt each
   refine ⟨some x,len,cap,fun i=>(q i).1,fun i=>(q i).2,rfl,fun h0=>?_,by unfold maxLen at hcm;omega⟩
   obtain ⟨b,off,spot⟩:=x
   have hspot:spot = none:=by simpa [Addr.add] using World.cell?_spot (hq 0 (by omega)).1
   subst hspot
   refine ⟨b,off,rfl,fun j hj=>?_⟩
   obtain ⟨c0,c1,c2⟩:=hq j (by omega)
   rw [addr_two] at c0 c1
   exact ⟨⟨c0,by rw [Nat.add_assoc];exact c1⟩,c2⟩
def IsSch (w:World) (x:Sch):Prop:=Flds w x.a x.l x.fn x.fk∧x.l ≤ 9223372036854775807∧x.nm.size ≤ maxLen
theorem IsSch.later {w w':World} {x:Sch} (h:IsSch w x) (hB:Below w.heap.size w w'):IsSch w' x:=⟨h.1.later hB,h.2⟩
theorem trod_sch {fuel:Nat} {cs:List Value} {x:DataW H × List MemPlace} (h:DataW.trod enc Tryz.prog w base spare held fuel 115 cs = some x) :
 ∃ q:Sch,cs = [.string q.nm,q.v]∧IsSch w q:=by
 obtain ⟨f0,f1,hu,o0,o1,t0,t1⟩:=sch_under
 obtain ⟨y0,y1,m,rfl,hl,g0,g1⟩:=trod_struct2 hu h
 rw [cells_h] at hl
 rw [o0,t0,cells_s] at g0
 rw [o1,t1,cells_l] at g1
 match cs,hl with
 | [c0,c1],_ =>
   obtain ⟨s,e0,rfl,w0⟩:=DataW.trod_string Tryz.underlying9 g0
   obtain ⟨a,len,cap,Nm,K,e1,hf,hl⟩:=trod_flds g1
   simp at e0 e1
   subst e0 e1
   exact ⟨⟨s,a,len,cap,Nm,K⟩,rfl,hf,hl,w0⟩
def sch0:Sch:=⟨⟨#[]⟩,none,0,0,fun _=>⟨#[]⟩,fun _=>0⟩
theorem open_schs {a:Option Addr} {len cap:Nat} {d:DataW H} {p:List MemPlace} (h:DataW.Trod enc Tryz.prog w base spare held 22 (.slice a len cap) d p):∃ Q:Nat→Sch,Schs w a len Q∧len ≤ 9223372036854775807:=by
 obtain ⟨fuel,hf⟩:=h
 rcases Deep.open_slice Tryz.underlying22 hf with ⟨hcs,_⟩ | ⟨x,l,c,m,n,D,Pl,hcs,_,hl,hcm,hmm,_,hx⟩
 · simp [Value.cells] at hcs
   obtain ⟨rfl,rfl,rfl⟩:=hcs
   exact ⟨fun _=>sch0,⟨fun h=>by omega,fun j hj=>by omega⟩,by omega⟩
 · simp [Value.cells] at hcs
   obtain ⟨rfl,rfl,rfl⟩:=hcs
   have hlm:len ≤ m:=by rw [hmm];split <;> omega
   have each:∀ i,i < m→∃ q:Sch,w.cell? (x.add (i * 2)) = some (.string q.nm)∧w.cell? (x.add (i * 2 + 1)) = some q.v∧IsSch w q:=by
    intro i hi
    obtain ⟨cs',h1,h2⟩:=hx i hi
    rw [cells_h] at h1
    obtain ⟨_,hlen,hcell⟩:=World.cells?_some h1
    obtain ⟨q,rfl,hq⟩:=trod_sch h2
    have e0:=hcell 0 (by omega)
    have e1:=hcell 1 (by omega)
    rw [Deep.add_add] at e0 e1
    exact ⟨q,by simpa using e0,by simpa using e1,hq⟩
   have:Inhabited Sch:=⟨sch0⟩
   obtain ⟨q,hq⟩:=Deep.choose_lt each
   refine ⟨q,⟨fun h0=>?_,fun j hj=>⟨(hq j (by omega)).2.2.1,(hq j (by omega)).2.2.2.1⟩⟩,by unfold maxLen at hcm;omega⟩
   obtain ⟨b,off,spot⟩:=x
   have hspot:spot = none:=by simpa [Addr.add] using World.cell?_spot (hq 0 (by omega)).1
   subst hspot
   refine ⟨b,off,rfl,fun j hj=>?_⟩
   obtain ⟨c0,c1,c2⟩:=hq j (by omega)
   rw [addr_two] at c0 c1
   exact ⟨⟨c0,by rw [Nat.add_assoc];exact c1⟩,c2.2.2⟩
end
end Go.Proofs.YtkfpgkohkhhlhaaGreatDoor
