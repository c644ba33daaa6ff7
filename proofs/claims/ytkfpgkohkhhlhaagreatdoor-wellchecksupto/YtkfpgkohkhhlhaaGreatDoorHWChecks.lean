/-
  WellChecks holds wherever what comes in holds together at most 1048576 values and letters: Check tells of any query, by any schemas, what the document's tells. The two errors of typing and errors' own handle of 'error' as the program's text lays them (the card ties them). The condition is the bulk of the second form; without it the statement is false by size.
  The frame is made after the kit's toy of a law over a laid table.
-/
import Derived.Test.YtkfpgkohkhhlhaaGreatDoorHWlRefAhead
import Derived.LaidMore
import Derived.LaidHandle
import Derived.Stop.Joined
import Derived.Stop.LaidErr
import Derived.Stop.LaidTwo
import Derived.Test.YtkfpgkohkhhlhaaGreatDoorRows
import Derived.Test.YtkfpgkohkhhlhaaGreatDoorCards
import Derived.Test.YtkfpgkohkhhlhaaGreatDoorTie
import Derived.ShutString
import Derived.ChangeOld
import Derived.JoinedCond
import Derived.Deep.DeepHandedRow
import Derived.Deep.DeepWitnessRowRef
import Derived.SevenTiedAt
set_option maxRecDepth 100000
set_option maxHeartbeats 4000000
namespace Go.Proofs.YtkfpgkohkhhlhaaGreatDoor
open Go.RowKit
theorem wellChecks_walk (a:Option Addr) (ns cs:Nat) (Q:Nat→Sch) (q:Qy) (N T:Addr) (w:World) (hS:Schs w a ns Q) (hQ:IsQ w q) (hok:QOk q) (hsm:q.bulk≤1048576) (hSe:Sens w N T) (hE:w.cell? ⟨0,0,none⟩=some (rty 66)) :
 Calls Tryz.prog 3 #[.slice a ns cs,q.val] w (RV (.bool true) w):=by
 obtain ⟨A,hA⟩:∃ A,w.alloc (.cells q.cells 29)=A:=⟨_,rfl⟩
 have hqb:QB A w.heap.size q:=by rw [← hA];exact QB.new w q
 have hBA:Below w.heap.size w A:=by rw [← hA];exact nwB w _
 obtain ⟨⟨d0,d1,d2,d3,d4,d5⟩,d6,d7,d8,d9,d10⟩:=hqb.at0
 have CA:Hid (∀ d,Below A.heap.size A d→Calls Tryz.prog 7 #[] d (RV (.bool true) d)):=fun d hd=>awake14_any N T d ((hSe.later hBA).later hd) (cell_later (cell_later hE hBA) hd)
 have CL:=lightQ_any q A (hQ.later hBA) hsm
 have CK:Hid (∀ d,Below A.heap.size A d→Calls Tryz.prog 8 #[.slice a ns cs,q.val] d _):=fun d hd=>checkW_any a ns cs Q q N T d ((hS.later hBA).later hd) ((hQ.later hBA).later hd) hok hsm ((hSe.later hBA).later hd) (cell_later (cell_later hE hBA) hd)
 have CR:Hid (∀ d,Below A.heap.size A d→Calls Tryz.prog 9 #[.slice a ns cs,q.val] d _):=fun d hd=>refCheck14_any a ns cs Q q d ((hS.later hBA).later hd) ((hQ.later hBA).later hd) hok hsm
 have HQB:=hid hqb
 have HBA:=hid hBA
 clear hqb hBA hS hQ hok hsm hSe hE
 go_enter Tryz.func3,Tryz.ntmps3
 go_wp2_with (first
  | (go_at_call 6;refine CL.mono ?_;clear CL;rintro e w1 ⟨b,rfl,hB1⟩;clear d0 d1 d2 d3 d4 d5 d6 d7 d8 d9 d10;obtain ⟨⟨d0,d1,d2,d3,d4,d5⟩,d6,d7,d8,d9,d10⟩:=(HQB.out.later hB1).at0;cases b)
  | (go_at_call 7;refine (CA.out w1 hB1).mono ?_;rintro e w2 ⟨rfl,hB2⟩))
 · go_ret
   exact ⟨rfl,HBA.out.trans ((hB1.trans (hB2.mono hB1.size)).mono HBA.out.size)⟩
 · obtain ⟨W,hW⟩:∃ W,W=w1:=⟨_,rfl⟩
   rw [← hW] at hB1 ⊢
   have K1:Hid (∀ d,Below W.heap.size W d→Calls Tryz.prog 8 #[.slice a ns cs,q.val] d _):=fun d hd=>CK.out d (hB1.trans (hd.mono hB1.size))
   have K2:Hid (∀ d,Below W.heap.size W d→Calls Tryz.prog 9 #[.slice a ns cs,q.val] d _):=fun d hd=>CR.out d (hB1.trans (hd.mono hB1.size))
   have K3:Hid (∀ d,Below W.heap.size W d→Calls Tryz.prog 7 #[] d _):=fun d hd=>CA.out d (hB1.trans (hd.mono hB1.size))
   have HQW:Hid (QB W w.heap.size q):=HQB.out.later hB1
   have HB1:=hid hB1
   clear CK CR CA hB1 hW d0 d1 d2 d3 d4 d5 d6 d7 d8 d9 d10
   refine bg fun d hHeld=>?_
   have hT:=hHeld
   refine tk 0 ?_
   refine tk 1 ?_ (hy:=fun w9 hSw=>by obtain ⟨⟨d0,d1,d2,d3,d4,d5⟩,d6,d7,d8,d9,d10⟩:=(HQW.out.later hSw).at0;go_simp;(try with_reducible rfl))
   refine tk 3 ?_
   refine tk 4 ?_ (hy:=fun w9 hSw=>by obtain ⟨⟨d0,d1,d2,d3,d4,d5⟩,d6,d7,d8,d9,d10⟩:=(HQW.out.later hSw).at0;go_simp;(try with_reducible rfl))
   refine rd 2 fun K hK=>?_
   go_simp
   refine (K1.out _ hT).mono ?_
   rintro e x2 ⟨z1,rfl,hz1,hN2⟩
   go_wp2_with fail
   refine up hK hHeld hN2 ?_
   replace hT:=hT.trans (hN2.mono hT.size)
   replace hHeld:=Below.refl x2.heap.size x2
   clear hK K hN2
   refine rd 5 fun K hK=>?_
   go_simp
   refine (K2.out _ hT).mono ?_
   rintro e x5 ⟨z2,rfl,hz2,hN5⟩
   obtain rfl:=hz1.one hz2
   go_wp2_with fail
   refine up hK hHeld hN5 ?_
   replace hT:=hT.trans (hN5.mono hT.size)
   replace hHeld:=Below.refl x5.heap.size x5
   clear hK K hN5
   refine tk 6 ?_
   refine tk 7 ?_
   refine rd 8 fun K hK=>?_
   go_simp
   refine (K3.out _ hT).mono ?_
   rintro e x8 ⟨rfl,hN8⟩
   go_wp2_with fail
   refine up hK hHeld hN8 ?_
   replace hT:=hT.trans (hN8.mono hT.size)
   replace hHeld:=Below.refl x8.heap.size x8
   clear hK K hN8
   refine tk 9 ?_
   refine tk 10 ?_
   refine dn ?_
   go_wp2
   go_ret
   exact ⟨rfl,HBA.out.trans ((HB1.out.trans (hT.mono HB1.out.size)).mono HBA.out.size)⟩
open Go.ChangeShapes Go.WideShapes Go.ChangeAt
def laidW : List (String × DataW Unit) := [("errors.errorType", Rows.laid_errors_errorType), ("haruspex/typing.errNone", Rows.laid_haruspex_typing_errNone), ("haruspex/typing.errType", Rows.laid_haruspex_typing_errType)]
theorem laidW_some : (laidW.filter fun x => x.2.handleName?.isSome) = [("errors.errorType", Rows.laid_errors_errorType)] := by kernel_rfl
theorem laidW_none : (laidW.filter fun x => x.2.handleName?.isNone) = [("haruspex/typing.errNone", Rows.laid_haruspex_typing_errNone), ("haruspex/typing.errType", Rows.laid_haruspex_typing_errType)] := by kernel_rfl
theorem gErrW : Tryz.prog.globalNamed "errors.errorType" = some 0 := by kernel_rfl
theorem gNone : Tryz.prog.globalNamed "haruspex/typing.errNone" = some 2 := by kernel_rfl
theorem gType : Tryz.prog.globalNamed "haruspex/typing.errType" = some 1 := by kernel_rfl
theorem tNone:(Tryz.prog.globals[2]?).map (·.type)=some 66:=by kernel_rfl
theorem tType:(Tryz.prog.globals[1]?).map (·.type)=some 66:=by kernel_rfl
theorem cellsES:Tryz.prog.cellsOf 308=1:=by kernel_rfl
theorem cellsSt:Tryz.prog.cellsOf 9=1:=by kernel_rfl
theorem starES : "*" ++ "errors.errorString" = "*errors.errorString" := by decide
theorem rowES (u : TypeId) (h : Tryz.prog.typeName? 3 u = some "*errors.errorString") : u = 287 :=
 typeName_ptr_named (nm := "errors.errorString") (by rw [starES]; kernel_rfl) (by kernel_rfl) (by decide) u (by rw [starES]; exact h)
theorem cell_of_var {W:World} {name:String} {g:Nat} {v:Value} (hg:Tryz.prog.globalNamed name=some g) (hv:W.var? Tryz.prog name=some #[v]):W.cell? ⟨g,0,none⟩=some v:=by
 unfold World.var? at hv
 rw [hg] at hv
 simp only [Option.bind_some] at hv
 split at hv
 · rename_i c t f hh
   cases hv
   simp [World.cell?,hh]
 · cases hv
theorem rowErr:((List.range Tryz.prog.types.size).all fun ty=>!Tryz.prog.rowNamed ty [101,114,114,111,114] || ty == 66)=true:=by kernel_rfl
theorem cutRty : (Tryz.prog.cutTypes.find? (·.1 == "internal/reflectlite.rtype")).map (·.2) = some 182 := by kernel_rfl
theorem hdlErr:typeHandle Tryz.prog 66=hdl 66:=by kernel_rfl
theorem met_of_laid {W:World} (h:laidMetH Tryz.prog laidW W):∃ N T,Sens W N T∧W.cell? ⟨0,0,none⟩=some (rty 66):=by
 unfold laidMetH at h
 rw [laidW_some,laidW_none] at h
 obtain ⟨hL,hH⟩:=h
 obtain ⟨a0,a1,s0,s1,c0,c1,t0,t1,hv0,hv1,_,_,_,_,_,_,hne,hb0,hb1⟩:=laid_sentinels2 hL gNone tNone gType tType Tryz.underlying66 rowES Tryz.underlying287 Tryz.underlying308 rfl rfl Tryz.underlying9 cellsES cellsSt
 refine ⟨a0,a1,⟨cell_of_var gNone hv0,cell_of_var gType hv1,⟨c0,t0,hb0⟩,⟨c1,t1,hb1⟩,hne⟩,?_⟩
 have hx:=hH _ (List.mem_singleton.2 rfl)
 rw [show (("errors.errorType", Rows.laid_errors_errorType) : String × DataW Unit).2.funcsIn? = none by kernel_rfl] at hx
 obtain ⟨name,u,ty,hn,hu,hty,hrow,hv⟩:=hx
 obtain rfl : [101, 114, 114, 111, 114] = name := Option.some.inj ((show (("errors.errorType", Rows.laid_errors_errorType) : String × DataW Unit).2.handleName? = some [101, 114, 114, 111, 114] by kernel_rfl).symm.trans hn)
 obtain rfl:=Option.some.inj (cutRty.symm.trans hu)
 have ht:=List.all_eq_true.1 rowErr ty (List.mem_range.2 hty)
 rw [hrow] at ht
 obtain rfl:ty=66:=by simpa using ht
 rw [hdlErr] at hv
 exact cell_of_var gErrW hv
theorem door_met (os:Os) (args:Array Value):laidMetH Tryz.prog laidW ((World.doorLaid Tryz.prog 400 os).forCall (fun _ _=>0) ⟨#[],args,[]⟩).memory :=
 laidMetH_of_parts (by rw [laidW_none];exact laidMet_of_run' 8 (by kernel_rfl) (by kernel_rfl)) (by rw [laidW_some];kernel_rfl)
end Go.Proofs.YtkfpgkohkhhlhaaGreatDoor
namespace Go.Proofs.YtkfpgkohkhhlhaaGreatDoor.wellChecks
open Go.ChangeShapes Go.WideShapes Go.ChangeAt Go.RowKit
theorem own:ownKnob Tryz.prog.godebug=none:=by kernel_rfl
theorem laidOut:laidOutB Tryz.prog=true:=by kernel_rfl
theorem contract (H:Type) (enc:TypeId × Value→H) (W:World) (base:Nat) (args:Array Value) (ds gs:List (DataW H)) (before:List MemPlace)
 (hval0:∀ (j:Nat) t v,Tryz.f3.params[j]? = some t→args[j]? = some v→Value.okWide Tryz.prog W .any base t v)
 (hW:DataW.Whole enc Tryz.prog Tryz.f3.params.toList Rows.wellChecksSpec.vars false W args.toList ds gs before) (hk:Rows.uptoSmall H (ds ++ gs)=true) (hL:laidMetH Tryz.prog Rows.wellChecksUptoRow.laid W) :
 Calls Tryz.prog 3 args W fun e W'=>∃ v,e=.returned v∧Rows.wellChecksSpec.post enc Tryz.prog Tryz.f3 false true false false W args v W':=by
 obtain ⟨N,T,hS,hE⟩:=met_of_laid hL
 have hval:∀ (j:Nat) t v,Tryz.f3.params[j]? = some t→args[j]? = some v→Value.okWide Tryz.prog W .any base t v:=hval0
 have hW':=hW
 obtain ⟨p,q,hA0,hV,rfl,hfz,hnd⟩:=hW
 have hA:DataW.TrodAll enc Tryz.prog W 0 (fun _=>true) true Tryz.f3.params.toList args.toList ds p:=hA0
 rw [Tryz.params3] at hA hval
 obtain ⟨v0,vs0,d0,ds0,p0,q0,hargs,rfl,rfl,h0,r0⟩:=trodAll_cons hA
 obtain ⟨v1,vs1,d1,ds1,p1,q1,rfl,rfl,rfl,h1,r1⟩:=trodAll_cons r0
 obtain ⟨rfl,rfl,rfl⟩:=trodAll_nil r1
 obtain rfl:args=#[v0,v1]:=by cases args;simp_all
 obtain ⟨rfl,rfl⟩:=trodVars_none hV
 have e0:=h0
 have lt0:∀ x ∈ p0,x.block < W.heap.size:=by obtain ⟨m,hm⟩:=e0;exact DataW.trod_lt m _ _ _ hm
 obtain ⟨a0,len0,cap0,rfl⟩:=okWide_slice Tryz.underlying22 (hval 0 22 v0 rfl rfl)
 obtain ⟨Q0,h0v,l0⟩:=open_schs h0
 have e1:=h1
 have lt1:∀ x ∈ p1,x.block < W.heap.size:=by obtain ⟨m,hm⟩:=e1;exact DataW.trod_lt m _ _ _ hm
 obtain ⟨x1,rfl,h1v,z1,k1⟩:=open_q (hval 1 29 v1 rfl rfl) h1
 have hkk:Rows.uptoBulkAll [d0,d1]≤1048576:=of_decide_eq_true hk
 simp only [Rows.uptoBulkAll] at hkk
 clear hA0 hval0
 refine (wellChecks_walk a0 len0 cap0 Q0 x1 N T W h0v h1v k1 (by omega) hS hE).mono fun e W' ⟨he,bel⟩=>?_
 subst he
 exact ⟨_,rfl,_,_,_,[],_,[],hW',trodAll_mk1 (shut_bool Tryz.underlying4 _),(trodAll_cons_mk (Below.trod laidOut (by kernel_rfl) (of_decide_eq_true (by kernel_rfl)) e0 bel lt0) (trodAll_cons_mk (Below.trod laidOut (by kernel_rfl) (of_decide_eq_true (by kernel_rfl)) e1 bel lt1) trodAll_mk0)),rfl,bel.frame _,fun h=>by cases h⟩
theorem reads (os:Os) {H:Type} (enc:TypeId × Value→H):∃ places,DataW.whole enc Tryz.prog ((World.doorLaid Tryz.prog 400 os).forCall (fun _ _=>0) ⟨#[],#[.slice none 0 0,.agg #[.int .i64 0,.string ByteArray.empty,.string ByteArray.empty,.int .i64 0,.int .i64 0,.slice none 0 0,.slice none 0 0,.string ByteArray.empty,.int .i64 0,.int .i64 0,.slice none 0 0]],[]⟩).memory Tryz.f3.params.toList (Rows.OpenSpec.upto Rows.wellChecksSpec).vars false (#[.slice none 0 0,.agg #[.int .i64 0,.string ByteArray.empty,.string ByteArray.empty,.int .i64 0,.int .i64 0,.slice none 0 0,.slice none 0 0,.string ByteArray.empty,.int .i64 0,.int .i64 0,.slice none 0 0]]:Array Value).toList 8=some ([.nil,.agg [.agg [.lit (.int .i64 0),.lit (.string []),.lit (.string []),.lit (.int .i64 0),.lit (.int .i64 0),.nil],.nil,.lit (.string []),.lit (.int .i64 0),.lit (.int .i64 0),.nil]],[],places) :=
 ⟨[],by kernel_rfl⟩
theorem lifted (os:Os) (started:os.Started) (H:Type) (enc:TypeId × Value→H) (F:Stop.Interp) :
 ReturnsInHanded {} Tryz.checked os 3 .any ((Rows.OpenSpec.upto Rows.wellChecksSpec).preRow enc Tryz.prog Tryz.f3 Rows.wellChecksUptoRow.domain false Rows.wellChecksUptoRow.laid) (((Rows.OpenSpec.upto Rows.wellChecksSpec).at F).post enc Tryz.prog Tryz.f3 false true false false):=by
 obtain ⟨places,hx⟩:=reads os enc
 refine returnsInHanded_of_row (C:=Tryz.checked) (s:=Rows.OpenSpec.upto Rows.wellChecksSpec) own started (by kernel_rfl) Tryz.func3
  (witness_row_atRef (enc:=enc) (C:=Tryz.checked) false (World.doorLaid Tryz.prog 400 os) #[.slice none 0 0,.agg #[.int .i64 0,.string ByteArray.empty,.string ByteArray.empty,.int .i64 0,.int .i64 0,.slice none 0 0,.slice none 0 0,.string ByteArray.empty,.int .i64 0,.int .i64 0,.slice none 0 0]] rfl (by kernel_rfl) (by kernel_rfl) (by kernel_rfl)
    (OpenSpec.preRow_of_cond 8 hx (by kernel_rfl) (fun k hk=>by cases hk;kernel_rfl) (by kernel_rfl) (door_met os _))) ?_
 intro W base args ds gs before hval hW _ hcond _ hL _ _
 exact contract H enc W base args ds gs before hval hW (hcond _ rfl) hL
theorem said:Rows.WellChecksUptoSaid :=
 OpenClaim.holds_of_cond 3 Tryz.f3 rfl rfl rfl rfl rfl rfl rfl ⟨rfl,rfl,rfl,rfl,rfl⟩ rfl rfl rfl rfl rfl (by kernel_rfl) Tryz.func3 (by kernel_rfl)
  (of_decide_eq_true (by kernel_rfl)) (by unfold Func.isWrapper;first | (rw [if_pos (by decide +kernel)];kernel_rfl) | (rw [if_neg (by decide +kernel)];exact ⟨rfl,rfl⟩))
  (fun os started H enc _ F=>by rw [OpenClaim.pre_eq_preRow];exact lifted os started H enc F)
theorem plain (f : FuncId) (fn : Func) (hf : Tryz.pinned.checked.prog.funcNamed "haruspex/haruspexlaw14.WellChecks" = some f) (hfn : Tryz.pinned.checked.prog.funcs[f]? = some fn) :
 true=Tryz.pinned.checked.prog.looks []∧∀ (j:Nat) t,fn.params[j]? = some t→Tryz.pinned.checked.prog.wantsStandIn t=false:=by
 obtain rfl : f = 3 := Option.some.inj ((show Tryz.prog.funcNamed "haruspex/haruspexlaw14.WellChecks" = some 3 by kernel_rfl).symm.trans hf) |>.symm
 obtain rfl:fn=Tryz.f3:=(Option.some.inj (Tryz.func3.symm.trans hfn)).symm
 refine ⟨by kernel_rfl,fun j t ht=>?_⟩
 rw [Tryz.params3] at ht
 have hm:t ∈ [22,29]:=by simpa using Array.mem_of_getElem? ht
 have hall:([22,29].all fun u=>!Tryz.prog.wantsStandIn u)=true:=by kernel_rfl
 exact (show Tryz.prog.wantsStandIn t=false by simpa using List.all_eq_true.1 hall t hm)
theorem proved:Rows.WellChecksUptoCardSaid :=
 Claim7.holds_tied_plain_at .later [] _ _ _ _ said (fun _ h=>by cases h) (by kernel_rfl) (fun _ h=>by cases h) wellChecksUpto_row_tie rfl ⟨rfl,rfl⟩ (by kernel_rfl) rfl plain (by kernel_rfl)
end Go.Proofs.YtkfpgkohkhhlhaaGreatDoor.wellChecks
namespace Go.Proofs.YtkfpgkohkhhlhaaGreatDoor
theorem wellChecks_upto:Rows.WellChecksUptoCardSaid:=wellChecks.proved
#print axioms wellChecks_upto
end Go.Proofs.YtkfpgkohkhhlhaaGreatDoor
