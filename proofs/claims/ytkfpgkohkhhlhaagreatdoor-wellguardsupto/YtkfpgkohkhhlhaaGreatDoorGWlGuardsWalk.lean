/- Texts that the last one stands on. -/
import Derived.Test.YtkfpgkohkhhlhaaGreatDoorGWlRefAhMath
import Derived.Test.YtkfpgkohkhhlhaaGreatDoorGWlItem
import Derived.ProofKit
import Derived.LaidMore
import Derived.LaidHandle
import Derived.Stop.Joined
import Derived.Stop.LaidErr
import Derived.Stop.LaidTwo
set_option maxRecDepth 100000
set_option maxHeartbeats 4000000
namespace Go.Proofs.YtkfpgkohkhhlhaaGreatDoor
open Go.RowKit
theorem cellsG_row (l:List Nat):cellsG l = rowI (fun i=>((l[i]?.getD 0:Nat):Int)) l.length:=by
 refine List.ext_getElem? fun i=>?_
 by_cases h:i < l.length
 · rw [rowI_get _ _ _ h,cellsG,List.getElem?_map,List.getElem?_eq_getElem h]
   rfl
 · rw [List.getElem?_eq_none (by simp [cellsG];omega),List.getElem?_eq_none (by rw [rowI_len];omega)]
theorem own_ks {w:World} {base cap:Nat} {a:Option Addr} {l:List Nat} (h:w.ownsRow base 3 1 (.slice a l.length cap) l.length (cellsG l)):IsI w a l.length (fun i=>((l[i]?.getD 0:Nat):Int)):=by
 rw [cellsG_row] at h
 obtain ⟨a',cap',e,hi,_⟩:=own_isI h
 cases e
 exact hi
theorem boxPQ (x:Pt) (q:Qy) (w:World):∃ A,(w.alloc (.cells x.cells 25)).alloc (.cells q.cells 29) = A∧Below w.heap.size w A∧NodeP A w.heap.size 0 x∧QB A (w.heap.size + 1) q:=by
 refine ⟨_,rfl,(nwB w _).alloc (by simp) _,(nodeP_new w _ x).later (nwB _ _),?_⟩
 have:=QB.new (w.alloc (.cells x.cells 25)) q
 rw [World.size_alloc] at this
 exact this
theorem wellGuards_walk (x:Pt) (q:Qy) (v:ByteArray) (N T:Addr) (w:World) (hX:IsP w x) (hxs:x.size ≤ 1048576) (hxo:POk x) (hQ:IsQ w q) (hsm:q.bulk ≤ 1048576) (hSe:Sens w N T) (hE:w.cell? ⟨0,0,none⟩ = some (rty 66)) :
 Calls Tryz.prog 4 #[x.val,q.val,.string v] w (RV (.bool true) w):=by
 obtain ⟨A,hA,hBA,hnx,hqb⟩:=boxPQ x q w
 obtain ⟨a0,a1,a2,a3,a4,a5⟩:=hnx.at0
 have CA:Hid (∀ d,Below A.heap.size A d→Calls Tryz.prog 7 #[] d (RV (.bool true) d)):=fun d hd=>awake14_any N T d ((hSe.later hBA).later hd) (cell_later (cell_later hE hBA) hd)
 have C1:=refSizeP_any x A (hX.later hBA) hxs
 have C2:Hid (∀ d,Below A.heap.size A d→Calls Tryz.prog 6 #[q.val] d (SomeB d)):=fun d hd=>lightQ_any q d ((hQ.later hBA).later hd) hsm
 have C3:Hid (∀ d,Below A.heap.size A d→Calls Tryz.prog 11 #[x.val,.string v] d _):=fun d hd=>ahead_any x v d ((hX.later hBA).later hd) hxs hxo
 have C4:Hid (∀ d,Below A.heap.size A d→Calls Tryz.prog 12 #[x.val,.string v] d _):=fun d hd=>refAhead_any x v d ((hX.later hBA).later hd) hxs
 have C5:Hid (∀ d,Below A.heap.size A d→Calls Tryz.prog 13 #[q.val,.string v] d _):=fun d hd=>guards_any q v d ((hQ.later hBA).later hd) hsm
 have C6:Hid (∀ d,Below A.heap.size A d→Calls Tryz.prog 14 #[q.val,.string v] d _):=fun d hd=>refGuards_any q v d ((hQ.later hBA).later hd) hsm
 have HNX:=hid hnx
 have HQB:=hid hqb
 have HBA:=hid hBA
 have HAL:Hid ((aheadL v x).length ≤ 1048576):=aheadL_len v x hxs
 have HGL:Hid ((grdL q v q.n).length ≤ 1048576):=Nat.le_trans (grdL_len q v q.n) (q_n hsm)
 obtain ⟨L,hL⟩:∃ L,L = aheadL v x:=⟨_,rfl⟩
 obtain ⟨G,hG⟩:∃ G,G = grdL q v q.n:=⟨_,rfl⟩
 rw [← hL] at C3 C4 HAL
 rw [← hG] at C5 C6 HGL
 clear hnx hqb hBA hX hQ hsm hSe hE hxs hxo hL hG
 by_cases h3:(300:Int) < (x.size:Int)
 · clear C2 C3 C4 C5 C6
   go_enter Tryz.func4,Tryz.ntmps4
   go_wp2_with (first
    | (go_at_call 10;refine C1.mono ?_;clear C1;rintro e w1 ⟨rfl,hB1⟩)
    | (go_at_call 7;refine (CA.out w1 hB1).mono ?_;rintro e w2 ⟨rfl,hB2⟩))
   go_ret
   exact ⟨rfl,HBA.out.trans ((hB1.trans (hB2.mono hB1.size)).mono HBA.out.size)⟩
 · go_enter Tryz.func4,Tryz.ntmps4
   go_wp2_with (first
    | (go_at_call 10;refine C1.mono ?_;clear C1;rintro e w1 ⟨rfl,hB1⟩;obtain ⟨⟨d0,d1,d2,d3,d4,d5⟩,d6,d7,d8,d9,d10⟩:=(HQB.out.later hB1).at0)
    | (go_at_call 6;refine (C2.out w1 hB1).mono ?_;clear C2;rintro e w2 ⟨b,rfl,hB2⟩;have hB12:=hB1.trans (hB2.mono hB1.size);clear d0 d1 d2 d3 d4 d5 d6 d7 d8 d9 d10;obtain ⟨e0,e1,e2,e3,e4,e5⟩:=(HNX.out.later hB12).at0;cases b)
    | (go_at_call 7;refine (CA.out w2 hB12).mono ?_;rintro e w3 ⟨rfl,hB3⟩)
    | (go_at_call 11;refine (C3.out w2 hB12).mono ?_;clear C3 e0 e1 e2 e3 e4 e5;rintro e w3 ⟨v3,rfl,ho3,hB3⟩;have hB13:=hB12.trans (hB3.mono hB12.size);obtain ⟨f0,f1,f2,f3,f4,f5⟩:=(HNX.out.later hB13).at0;obtain ⟨aa,ac,rfl⟩:=row_slice ho3;have HT3:Hid (Txs w3 aa L.length (atS L)):=own_txs' ho3;clear ho3)
    | (go_at_call 12;refine (C4.out w3 hB13).mono ?_;clear C4 f0 f1 f2 f3 f4 f5;rintro e w4 ⟨v4,rfl,ho4,hB4⟩;have hB14:=hB13.trans (hB4.mono hB13.size);obtain ⟨⟨d0,d1,d2,d3,d4,d5⟩,d6,d7,d8,d9,d10⟩:=(HQB.out.later hB14).at0;obtain ⟨ba,bc,rfl⟩:=row_slice ho4;have HT4:Hid (Txs w4 ba L.length (atS L)):=own_txs' ho4;clear ho4)
    | (go_at_call 13;refine (C5.out w4 hB14).mono ?_;clear C5 d0 d1 d2 d3 d4 d5 d6 d7 d8 d9 d10;rintro e w5 ⟨v5,rfl,ho5,hB5⟩;have hB15:=hB14.trans (hB5.mono hB14.size);obtain ⟨⟨d0,d1,d2,d3,d4,d5⟩,d6,d7,d8,d9,d10⟩:=(HQB.out.later hB15).at0;obtain ⟨ca,cc,rfl⟩:=row_slice ho5;have HT5:Hid (IsI w5 ca G.length _):=own_ks ho5;clear ho5)
    | (go_at_call 14;refine (C6.out w5 hB15).mono ?_;clear C6 d0 d1 d2 d3 d4 d5 d6 d7 d8 d9 d10;rintro e w6 ⟨v6,rfl,ho6,hB6⟩;have hB16:=hB15.trans (hB6.mono hB15.size);obtain ⟨da,dc,rfl⟩:=row_slice ho6;have HT6:Hid (IsI w6 da G.length _):=own_ks ho6;clear ho6))
   · go_ret
     exact ⟨rfl,HBA.out.trans ((hB12.trans (hB3.mono hB12.size)).mono HBA.out.size)⟩
   · obtain ⟨n,hn⟩:∃ n,n = L.length:=⟨_,rfl⟩
     obtain ⟨m,hm⟩:∃ m,m = G.length:=⟨_,rfl⟩
     obtain ⟨Z,hZ⟩:∃ Z:Nat→Int,Z = (fun i=>((G[i]?.getD 0:Nat):Int)):=⟨_,rfl⟩
     have hn6:=HAL.out
     have hm6:=HGL.out
     rw [← hn] at HT3 HT4 hn6 ⊢
     rw [← hm] at HT5 HT6 hm6 ⊢
     rw [← hZ] at HT5 HT6
     have h46:Below w4.heap.size w4 w6:=hB5.trans (hB6.mono hB5.size)
     have HA6:Hid (Txs w6 aa n (atS L)):=(HT3.out.later hB4).later h46
     have HB6:Hid (Txs w6 ba n (atS L)):=HT4.out.later h46
     have HC6:Hid (IsI w6 ca m Z):=HT5.out.later hB6
     have HD6:Hid (IsI w6 da m Z):=HT6.out
     have H6:=hid hB16
     clear HT3 HT4 HT5 HT6 hn hm hZ h46 hB1 hB2 hB3 hB4 hB5 hB6 hB12 hB13 hB14 hB15 hB16 HAL HGL h3 a0 a1 a2 a3 a4 a5 hA
     go_loopw [11] (fun i wr=>∃ k:Nat,k ≤ n∧i = .int .i64 k∧Below w6.heap.size w6 wr) (fun i _=>n - (intOf i).toNat)
     case atStart=>exact ⟨0,Nat.zero_le _,rfl,Below.refl _ _⟩
     case round =>
      obtain ⟨k,hk,rfl,hB⟩:=hrel
      by_cases hkn:k < n
      · obtain ⟨b,o,rfl,hc⟩:=(HA6.out.later hB) (by omega)
        obtain ⟨b',o',rfl,hc'⟩:=(HB6.out.later hB) (by omega)
        have c:=hc k hkn
        have c':=hc' k hkn
        have HK:=hid hkn
        clear hc hc'
        go_wp2_with fail
        go_quiet (fail)
        go_wp2
        go_roundw
        case rel=>exact ⟨k + 1,HK.out,by go_num,bd hB _⟩
        case measure=>have:=HK.out;simp [intOf];omega
      · obtain rfl:k = n:=by omega
        obtain ⟨wb,hwb⟩:∃ wb,wb = wr:=⟨_,rfl⟩
        rw [← hwb] at hB ⊢
        have HBB:=hid hB
        clear hwb hB hkn hk
        go_wp2
        go_loopw [12] (fun i wr=>∃ j:Nat,j ≤ m∧i = .int .i64 j∧Below w6.heap.size w6 wr) (fun i _=>m - (intOf i).toNat)
        case atStart=>exact ⟨0,Nat.zero_le _,rfl,HBB.out⟩
        case round =>
         obtain ⟨j,hj,rfl,hB⟩:=hrel
         by_cases hjm:j < m
         · obtain ⟨b,o,rfl,hc⟩:=(HC6.out.later hB) (by omega)
           obtain ⟨b',o',rfl,hc'⟩:=(HD6.out.later hB) (by omega)
           have c:=hc j hjm
           have c':=hc' j hjm
           have HJ:=hid hjm
           clear hc hc'
           go_wp2_with fail
           try go_quiet (fail)
           try go_wp2
           go_roundw
           case rel=>first | exact ⟨j + 1,HJ.out,by go_num,bd hB _⟩ | exact ⟨j + 1,HJ.out,by go_num,hB⟩
           case measure=>have:=HJ.out;simp [intOf];omega
         · obtain rfl:j = m:=by omega
           have C9:=CA.out wr (H6.out.trans (hB.mono H6.out.size))
           go_wp2_with (go_at_call 7;refine C9.mono ?_;clear C9;rintro e w9 ⟨rfl,hB9⟩)
           go_ret
           have h1:=H6.out.trans (hB.mono H6.out.size)
           exact ⟨rfl,HBA.out.trans ((h1.trans (hB9.mono h1.size)).mono HBA.out.size)⟩
open Go.ChangeShapes Go.WideShapes Go.ChangeAt
def laidW : List (String × DataW Unit) := [("errors.errorType", Rows.laid_errors_errorType), ("haruspex/typing.errNone", Rows.laid_haruspex_typing_errNone), ("haruspex/typing.errType", Rows.laid_haruspex_typing_errType)]
theorem laidW_some : (laidW.filter fun x => x.2.handleName?.isSome) = [("errors.errorType", Rows.laid_errors_errorType)] := by kernel_rfl
theorem laidW_none : (laidW.filter fun x => x.2.handleName?.isNone) = [("haruspex/typing.errNone", Rows.laid_haruspex_typing_errNone), ("haruspex/typing.errType", Rows.laid_haruspex_typing_errType)] := by kernel_rfl
theorem gErrW : Tryz.prog.globalNamed "errors.errorType" = some 0 := by kernel_rfl
theorem gNone : Tryz.prog.globalNamed "haruspex/typing.errNone" = some 2 := by kernel_rfl
theorem gType : Tryz.prog.globalNamed "haruspex/typing.errType" = some 1 := by kernel_rfl
theorem tNone:(Tryz.prog.globals[2]?).map (·.type) = some 66:=by kernel_rfl
theorem tType:(Tryz.prog.globals[1]?).map (·.type) = some 66:=by kernel_rfl
theorem cellsES:Tryz.prog.cellsOf 308 = 1:=by kernel_rfl
theorem cellsSt:Tryz.prog.cellsOf 9 = 1:=by kernel_rfl
theorem starES : "*" ++ "errors.errorString" = "*errors.errorString" := by decide
theorem rowES (u : TypeId) (h : Tryz.prog.typeName? 3 u = some "*errors.errorString") : u = 287 :=
 typeName_ptr_named (nm := "errors.errorString") (by rw [starES]; kernel_rfl) (by kernel_rfl) (by decide) u (by rw [starES]; exact h)
theorem cell_of_var {W:World} {name:String} {g:Nat} {v:Value} (hg:Tryz.prog.globalNamed name = some g) (hv:W.var? Tryz.prog name = some #[v]):W.cell? ⟨g,0,none⟩ = some v:=by
 unfold World.var? at hv
 rw [hg] at hv
 simp only [Option.bind_some] at hv
 split at hv
 · rename_i c t f hh
   cases hv
   simp [World.cell?,hh]
 · cases hv
theorem rowErr:((List.range Tryz.prog.types.size).all fun ty=>!Tryz.prog.rowNamed ty [101,114,114,111,114] || ty == 66) = true:=by kernel_rfl
theorem cutRty : (Tryz.prog.cutTypes.find? (·.1 == "internal/reflectlite.rtype")).map (·.2) = some 182 := by kernel_rfl
theorem hdlErr:typeHandle Tryz.prog 66 = hdl 66:=by kernel_rfl
theorem met_of_laid {W:World} (h:laidMetH Tryz.prog laidW W):∃ N T,Sens W N T∧W.cell? ⟨0,0,none⟩ = some (rty 66):=by
 unfold laidMetH at h
 rw [laidW_some,laidW_none] at h
 obtain ⟨hL,hH⟩:=h
 obtain ⟨a0,a1,s0,s1,c0,c1,t0,t1,hv0,hv1,_,_,_,_,_,_,hne,hb0,hb1⟩:=laid_sentinels2 hL gNone tNone gType tType Tryz.underlying66 rowES Tryz.underlying287 Tryz.underlying308 rfl rfl Tryz.underlying9 cellsES cellsSt
 refine ⟨a0,a1,⟨cell_of_var gNone hv0,cell_of_var gType hv1,⟨c0,t0,hb0⟩,⟨c1,t1,hb1⟩,hne⟩,?_⟩
 have hx:=hH _ (List.mem_singleton.2 rfl)
 rw [show (("errors.errorType", Rows.laid_errors_errorType) : String × DataW Unit).2.funcsIn? = none by kernel_rfl] at hx
 obtain ⟨name,u,ty,hn,hu,hty,hrow,hv⟩:=hx
 obtain rfl : [101, 114, 114, 111, 114] = name := Option.some.inj ((show (("errors.errorType", Rows.laid_errors_errorType) : String × DataW Unit).2.handleName? = some [101, 114, 114, 111, 114] by kernel_rfl).symm.trans hn)
 obtain rfl:=Option.some.inj (cutRty.symm.trans hu)
 have ht:=List.all_eq_true.1 rowErr ty (List.mem_range.2 hty)
 rw [hrow] at ht
 obtain rfl:ty = 66:=by simpa using ht
 rw [hdlErr] at hv
 exact cell_of_var gErrW hv
theorem door_met (os:Os) (args:Array Value):laidMetH Tryz.prog laidW ((World.doorLaid Tryz.prog 400 os).forCall (fun _ _=>0) ⟨#[],args,[]⟩).memory :=
 laidMetH_of_parts (by rw [laidW_none];exact laidMet_of_run' 8 (by kernel_rfl) (by kernel_rfl)) (by rw [laidW_some];kernel_rfl)
end Go.Proofs.YtkfpgkohkhhlhaaGreatDoor
