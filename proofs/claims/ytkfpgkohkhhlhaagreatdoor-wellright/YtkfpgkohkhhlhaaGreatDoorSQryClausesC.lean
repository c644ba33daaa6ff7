/- Texts that the last one stands on. -/
import Derived.Test.YtkfpgkohkhhlhaaGreatDoorSQryBase
set_option maxRecDepth 100000
set_option maxHeartbeats 16000000
namespace Go.Proofs.YtkfpgkohkhhlhaaGreatDoor
open Go.RowKit Go.Maps Go.WideMaps
theorem itAt_new (w:World) (t:TypeId) (x:It):(w.alloc (.cells x.cells t)).cell? ⟨w.heap.size,0,none⟩ = some (.string x.nm)∧(w.alloc (.cells x.cells t)).cell? ⟨w.heap.size,1,none⟩ = some (.int .i64 x.k)∧(w.alloc (.cells x.cells t)).cell? ⟨w.heap.size,2,none⟩ = some (.string x.s)∧(w.alloc (.cells x.cells t)).cell? ⟨w.heap.size,3,none⟩ = some (.string x.f):=by
 have:=itAt_box (alloc_new w (.cells x.cells t))
 unfold ItAt at this
 simp only [Nat.zero_add] at this
 exact this
theorem rightI_any (x:It) (w:World):Calls Tryz.prog 104 #[x.val] w (RV (.bool (rightI x)) w):=by
 have hB:Below w.heap.size w (w.alloc (.cells x.cells 77)):=nwB w _
 obtain ⟨k0,k1,k2,k3⟩:=itAt_new w 77 x
 have HB:=hid hB
 have KK:Hid (∀ d,Below (w.alloc (.cells x.cells 77)).heap.size (w.alloc (.cells x.cells 77)) d→d.cell? ⟨w.heap.size,0,none⟩ = some (.string x.nm)∧d.cell? ⟨w.heap.size,1,none⟩ = some (.int .i64 x.k)∧d.cell? ⟨w.heap.size,2,none⟩ = some (.string x.s)∧d.cell? ⟨w.heap.size,3,none⟩ = some (.string x.f)):=fun d h=>⟨cell_later k0 h,cell_later k1 h,cell_later k2 h,cell_later k3 h⟩
 have C1:Hid (∀ s d,Calls Tryz.prog 103 #[.string s] d _):=fun s d=>name_any s d
 obtain ⟨v,hv⟩:∃ v,v = rightI x:=⟨_,rfl⟩
 have HV:Hid (∀ f:Bool,f = (if x.k = 3 then decide (x.f = ⟨#[]⟩) else nameB x.f)→v = (nameB x.nm && (nameB x.s && (decide (1 ≤ x.k) && (decide (x.k ≤ 4) && f))))):=fun f h=>by rw [hv,h];rfl
 rw [← hv]
 clear hv hB
 obtain ⟨b1,hb1⟩:∃ b1,b1 = nameB x.nm:=⟨_,rfl⟩
 obtain ⟨b2,hb2⟩:∃ b2,b2 = nameB x.s:=⟨_,rfl⟩
 have C2:Hid (∀ d,Calls Tryz.prog 103 #[.string x.nm] d (RV (.bool b1) d)):=fun d=>by rw [hb1];exact name_any _ d
 have C3:Hid (∀ d,Calls Tryz.prog 103 #[.string x.s] d (RV (.bool b2) d)):=fun d=>by rw [hb2];exact name_any _ d
 have C4:Hid (∀ d,Calls Tryz.prog 103 #[.string x.f] d (RV (.bool (nameB x.f)) d)):=fun d=>name_any _ d
 rw [← hb1,← hb2] at HV
 clear hb1 hb2 C1
 by_cases h3:x.k = 3
 · have HV3:Hid (v = (b1 && (b2 && decide (x.f = ⟨#[]⟩)))):=by
    show _ = _
    rw [HV.out _ rfl,if_pos h3,decide_eq_true (show (1:Int) ≤ x.k by omega),decide_eq_true (show x.k ≤ 4 by omega),Bool.true_and,Bool.true_and]
   have t3:(x.k == 3) = true:=by simpa using h3
   have t1:(1:Int) ≤ x.k:=by omega
   have t4:x.k ≤ 4:=by omega
   have tf:∀ s,(x.f.toList == []) = s→decide (x.f = ⟨#[]⟩) = s:=fun s hs=>by
    have:=same_str x.f ⟨#[]⟩
    rw [nil_list] at this
    rw [← hs,this]
   obtain ⟨bf,hbf⟩:∃ bf,bf = (x.f.toList == []):=⟨_,rfl⟩
   have HV4:Hid (v = (b1 && (b2 && bf))):=by show _ = _;rw [HV3.out,tf bf hbf.symm]
   have hbf':=hbf.symm
   clear tf hbf h3 HV HV3
   go_enter Tryz.func104,Tryz.ntmps104
   go_upto_region 2 with (first | (go_at_call 103;refine (C4.out _).mono ?_;rintro e w1 ⟨rfl,hB1⟩))
   obtain ⟨c0,c1,c2,c3⟩:=KK.out _ hB1
   clear k0 k1 k2 k3 C4
   cases b1
   · go_wp2_with (first | (go_at_call 103;refine (C2.out _).mono ?_;clear C2;rintro e w2 ⟨rfl,hB2⟩))
     go_ret
     exact ⟨by rw [HV4.out];rfl,HB.out.trans ((hB1.trans (hB2.mono hB1.size)).mono HB.out.size)⟩
   · go_wp2_with (first
      | (go_at_call 103;refine (C2.out _).mono ?_;clear C2;rintro e w2 ⟨rfl,hB2⟩;have hB12:=hB1.trans (hB2.mono hB1.size);obtain ⟨e0,e1,e2,e3⟩:=KK.out _ hB12)
      | (go_at_call 103;refine (C3.out _).mono ?_;clear C3;rintro e w3 ⟨rfl,hB3⟩;have hB13:=hB12.trans (hB3.mono hB12.size);obtain ⟨g0,g1,g2,g3⟩:=KK.out _ hB13;cases b2))
     all_goals go_ret
     all_goals exact ⟨by rw [HV4.out];rfl,HB.out.trans (hB13.mono HB.out.size)⟩
 · have t3:(x.k == 3) = false:=by simpa using h3
   obtain ⟨bf,hbf⟩:∃ bf,bf = nameB x.f:=⟨_,rfl⟩
   have HV4:Hid (v = (b1 && (b2 && (decide (1 ≤ x.k) && (decide (x.k ≤ 4) && bf))))):=by show _ = _;rw [HV.out _ rfl,if_neg h3,hbf]
   rw [← hbf] at C4
   clear hbf h3 HV
   by_cases t1:(1:Int) ≤ x.k
   · by_cases t4:x.k ≤ 4
     · have HV5:Hid (v = (b1 && (b2 && bf))):=by show _ = _;rw [HV4.out,decide_eq_true t1,decide_eq_true t4,Bool.true_and,Bool.true_and]
       clear HV4
       go_enter Tryz.func104,Tryz.ntmps104
       go_upto_region 2 with (first | (go_at_call 103;refine (C4.out _).mono ?_;rintro e w1 ⟨rfl,hB1⟩))
       obtain ⟨c0,c1,c2,c3⟩:=KK.out _ hB1
       clear k0 k1 k2 k3 C4
       cases b1
       · go_wp2_with (first | (go_at_call 103;refine (C2.out _).mono ?_;clear C2;rintro e w2 ⟨rfl,hB2⟩))
         go_ret
         exact ⟨by rw [HV5.out];rfl,HB.out.trans ((hB1.trans (hB2.mono hB1.size)).mono HB.out.size)⟩
       · go_wp2_with (first
          | (go_at_call 103;refine (C2.out _).mono ?_;clear C2;rintro e w2 ⟨rfl,hB2⟩;have hB12:=hB1.trans (hB2.mono hB1.size);obtain ⟨e0,e1,e2,e3⟩:=KK.out _ hB12)
          | (go_at_call 103;refine (C3.out _).mono ?_;clear C3;rintro e w3 ⟨rfl,hB3⟩;have hB13:=hB12.trans (hB3.mono hB12.size);obtain ⟨g0,g1,g2,g3⟩:=KK.out _ hB13;cases b2))
         all_goals go_ret
         all_goals exact ⟨by rw [HV5.out];rfl,HB.out.trans (hB13.mono HB.out.size)⟩
     · have HV5:Hid (v = false):=by show _ = _;rw [HV4.out,decide_eq_false t4];simp
       clear HV4
       go_enter Tryz.func104,Tryz.ntmps104
       go_upto_region 2 with (first | (go_at_call 103;refine (C4.out _).mono ?_;rintro e w1 ⟨rfl,hB1⟩))
       obtain ⟨c0,c1,c2,c3⟩:=KK.out _ hB1
       clear k0 k1 k2 k3 C4
       cases b1
       · go_wp2_with (first | (go_at_call 103;refine (C2.out _).mono ?_;clear C2;rintro e w2 ⟨rfl,hB2⟩))
         go_ret
         exact ⟨by rw [HV5.out];rfl,HB.out.trans ((hB1.trans (hB2.mono hB1.size)).mono HB.out.size)⟩
       · go_wp2_with (first
          | (go_at_call 103;refine (C2.out _).mono ?_;clear C2;rintro e w2 ⟨rfl,hB2⟩;have hB12:=hB1.trans (hB2.mono hB1.size);obtain ⟨e0,e1,e2,e3⟩:=KK.out _ hB12)
          | (go_at_call 103;refine (C3.out _).mono ?_;clear C3;rintro e w3 ⟨rfl,hB3⟩;have hB13:=hB12.trans (hB3.mono hB12.size);obtain ⟨g0,g1,g2,g3⟩:=KK.out _ hB13;cases b2))
         all_goals go_ret
         all_goals exact ⟨by rw [HV5.out];rfl,HB.out.trans (hB13.mono HB.out.size)⟩
   · have HV5:Hid (v = false):=by show _ = _;rw [HV4.out,decide_eq_false t1];simp
     clear HV4
     go_enter Tryz.func104,Tryz.ntmps104
     go_upto_region 2 with (first | (go_at_call 103;refine (C4.out _).mono ?_;rintro e w1 ⟨rfl,hB1⟩))
     obtain ⟨c0,c1,c2,c3⟩:=KK.out _ hB1
     clear k0 k1 k2 k3 C4
     cases b1
     · go_wp2_with (first | (go_at_call 103;refine (C2.out _).mono ?_;clear C2;rintro e w2 ⟨rfl,hB2⟩))
       go_ret
       exact ⟨by rw [HV5.out];rfl,HB.out.trans ((hB1.trans (hB2.mono hB1.size)).mono HB.out.size)⟩
     · go_wp2_with (first
        | (go_at_call 103;refine (C2.out _).mono ?_;clear C2;rintro e w2 ⟨rfl,hB2⟩;have hB12:=hB1.trans (hB2.mono hB1.size);obtain ⟨e0,e1,e2,e3⟩:=KK.out _ hB12)
        | (go_at_call 103;refine (C3.out _).mono ?_;clear C3;rintro e w3 ⟨rfl,hB3⟩;have hB13:=hB12.trans (hB3.mono hB12.size);obtain ⟨g0,g1,g2,g3⟩:=KK.out _ hB13;cases b2))
       all_goals go_ret
       all_goals exact ⟨by rw [HV5.out];rfl,HB.out.trans (hB13.mono HB.out.size)⟩
def RS:Value→Option (DataW Unit × List MemPlace)
 | .agg cs=>if cs.size = 0 then some (.nil,[]) else none
 | _=>none
theorem rS_unit:RS (.agg #[]) = some (.nil,[]):=rfl
theorem rS_inv {v:Value} {x:DataW Unit × List MemPlace} (h:RS v = some x):v = .agg #[]:=by
 cases v with
 | agg cs =>
   simp only [RS] at h
   by_cases e:cs.size = 0
   · rw [Array.eq_empty_of_size_eq_zero e]
   · rw [if_neg e] at h;cases h
 | _=>cases h
theorem look_set {W:World} {M n:Nat} {D:DataW Unit} {L:List ByteArray} {s:ByteArray} (ho:W.ownsMap Tryz.prog 9 RS M n D) (hH:Hs L D) (hs:s.size ≤ maxLen) :
 ∃ b:Bool,(Instr.lookup 106 (.map (some M)) (.string s) true).run Tryz.prog W = .ok (.tuple #[.agg #[],.bool b]) W∧(b = true ↔ s ∈ L):=by
 have hkey:keyOf Tryz.prog 9 (.string s) = some (keyS s):=keyOf_string_mk Tryz.underlying9 hs
 obtain ⟨v,ps,hrun,hv⟩:=ho.look_ok str_law Tryz.underlying106 (z:=.agg #[]) rfl rS_unit hkey
 obtain rfl:=rS_inv hv
 exact ⟨_,hrun,hH.has s⟩
theorem ItemsR.next {q:Qy} {k:Nat} (h:ItemsR q k) (h1:rightI (q.it k) = true) (h2:¬ (q.it k).nm ∈ lstS (fun i=>(q.it i).nm) k):ItemsR q (k + 1):=by
 refine ⟨fun i hi=>?_,fun i hi j hj e=>?_⟩
 · by_cases e:i = k
   · rw [e];exact h1
   · exact h.1 i (by omega)
 · by_cases ei:i = k
   · subst ei
     exact h2 ((lstS_mem _ _ _).2 ⟨j,hj,e⟩)
   · exact h.2 i (by omega) j hj e
theorem cl9_any (q:Qy) (w:World) (hQ:IsQ w q) (hok:QOk q) (hsm:q.bulk ≤ 1048576):Calls Tryz.prog 53 #[q.val] w (RV (.int .i64 (cl9 q)) w):=by
 have hb:=hsm
 unfold Qy.bulk at hb
 have hmm:=@run_makeMap Tryz.prog
 have HA:Hid (∀ i,i < q.m→∀ d,Calls Tryz.prog 104 #[(q.it i).val] d (RV (.bool (rightI (q.it i))) d)):=fun i _ d=>rightI_any (q.it i) d
 have HO:Hid (∀ i,i < q.m→(q.it i).nm.size ≤ maxLen):=fun i hi=>(hok.it i hi).1
 have HIT:Hid (Its w q.ia q.m q.it):=hQ.it
 have H0:Hid (ItemsR q q.m→cl9 q = 0):=fun h=>if_pos h
 have H1:Hid (∀ k,k < q.m→rightI (q.it k) = false→cl9 q = 1):=fun k hk h=>if_neg fun e=>by have:=e.1 k hk;rw [h] at this;cases this
 have H2:Hid (∀ k,k < q.m→(q.it k).nm ∈ lstS (fun i=>(q.it i).nm) k→cl9 q = 1):=fun k hk h=>if_neg fun e=>by
  obtain ⟨j,hj,e2⟩:=(lstS_mem _ _ _).1 h
  exact e.2 k hk j hj e2
 obtain ⟨v,hv⟩:∃ v,v = cl9 q:=⟨_,rfl⟩
 rw [← hv] at H0 H1 H2 ⊢
 clear hQ hok hsm hv
 go_enter Tryz.func53,Tryz.ntmps53
 go_upto_region 2 with fail
 obtain ⟨A,hA⟩:∃ A,(w.alloc (.cells q.cells 95)).alloc (.map #[] 0) = A:=⟨_,rfl⟩
 have hsz:A.heap.size = w.heap.size + 2:=by rw [← hA];simp
 have hB:RowKit.Below w.heap.size w A:=by rw [← hA];exact ((RowKit.Below.refl _ w).alloc (Nat.le_refl _) _).alloc (by simp) _
 have hx0:A.heap[w.heap.size]? = some (.cells q.cells 95 (0,0)):=by rw [← hA];exact (alloc_old (by simp)).trans (alloc_new w _)
 have mb0:A.ownsMap Tryz.prog 9 RS (w.heap.size + 1) 0 (.map []):=by
  have:=World.ownsMap_made (w.alloc (.cells q.cells 95)) Tryz.prog 9 RS
  rw [World.size_alloc,hA] at this
  exact this
 rw [hA]
 have k10:=(qat0 hx0).2.2.2.2.2
 clear hx0 hA hmm
 go_wp2_with fail
 go_loopw [12] (fun u wr=>∃ k:Nat,k ≤ q.m∧u = .int .i64 k∧(∃ D,wr.ownsMap Tryz.prog 9 RS (w.heap.size + 1) k D∧Hid (Hs (lstS (fun i=>(q.it i).nm) k) D))∧Hid (ItemsR q k)∧Lb A.heap.size (w.heap.size + 1) A wr) (fun u _=>q.m - (intOf u).toNat)
 case atStart=>exact ⟨0,Nat.zero_le _,rfl,⟨_,mb0,hs_none⟩,⟨fun i hi=>absurd hi (Nat.not_lt_zero _),fun i hi=>absurd hi (Nat.not_lt_zero _)⟩,Lb.refl _ _ _⟩
 case round =>
  obtain ⟨k,hk,rfl,⟨D,hown,HH⟩,HIR,hLb⟩:=hrel
  clear k10 mb0
  have hBr:RowKit.Below w.heap.size w wr:=hB.trans (hLb.below (by omega) (by omega))
  by_cases hkn:k < q.m
  · obtain ⟨b,o,ea,i0,i1,i2,i3⟩:=(HIT.out.later hBr) k hkn
    rw [ea]
    have HKN:=hid hkn
    have hkey:keyOf Tryz.prog 9 (.string (q.it k).nm) = some (keyS (q.it k).nm):=keyOf_string_mk Tryz.underlying9 (HO.out k hkn)
    have hownA:(wr.alloc (.cells (q.it k).cells 77)).ownsMap Tryz.prog 9 RS (w.heap.size + 1) k D:=hown.alloc _
    obtain ⟨bb,hrun,hbb⟩:=look_set hownA HH.out (HO.out k hkn)
    have HBB:=hid hbb
    have HLA:Hid (Lb A.heap.size (w.heap.size + 1) A (wr.alloc (.cells (q.it k).cells 77))):=hLb.trans (.of_below ((RowKit.Below.refl _ _).alloc hLb.size _))
    clear ea hbb
    go_upto_region 6 with fail
    obtain ⟨V,hV⟩:∃ V,(wr.alloc (.cells (q.it k).cells 77)).alloc (.cells #[] 108) = V:=⟨_,rfl⟩
    rw [hV]
    have hBV:RowKit.Below wr.heap.size wr V:=by rw [← hV];exact ((RowKit.Below.refl _ _).alloc (Nat.le_refl _) _).alloc (by simp) _
    obtain ⟨y0,y1,y2,y3⟩:=itAt_new wr 77 (q.it k)
    have hB2:RowKit.Below (wr.alloc (.cells (q.it k).cells 77)).heap.size (wr.alloc (.cells (q.it k).cells 77)) V:=by rw [← hV];exact (RowKit.Below.refl _ _).alloc (Nat.le_refl _) _
    have x0:=cell_later y0 hB2
    have x1:=cell_later y1 hB2
    have x2:=cell_later y2 hB2
    have x3:=cell_later y3 hB2
    have hLV:Lb A.heap.size (w.heap.size + 1) A V:=hLb.trans (.of_below (hBV.mono hLb.size))
    have hoV:V.ownsMap Tryz.prog 9 RS (w.heap.size + 1) k D:=by rw [← hV];exact hownA.alloc _
    have hc:=HA.out k hkn V
    have HBV:Hid (RowKit.Below w.heap.size w V):=hBr.trans (hBV.mono hBr.size)
    have hlt:w.heap.size + 1 < V.heap.size:=hoV.lt
    clear hV hB2 hBV y0 y1 y2 y3 hrun hownA HLA
    cases bb with
    | true =>
      clear hc
      go_wp2
      try rw [Exit.noGoto_ret]
      go_ret
      exact ⟨by rw [H2.out k HKN.out (HBB.out.1 (by trivial))];rfl,HBV.out⟩
    | false =>
      obtain ⟨z,hz⟩:∃ z,z = rightI (q.it k):=⟨_,rfl⟩
      rw [← hz] at hc
      have HE:=hid hz
      clear hz
      cases z with
      | false =>
        go_wp2_with (first | (go_at_call 104;refine hc.mono ?_;clear hc;rintro e w2 ⟨rfl,hB2⟩))
        try rw [Exit.noGoto_ret]
        go_ret
        exact ⟨by rw [H1.out k HKN.out HE.out.symm];rfl,HBV.out.trans (hB2.mono HBV.out.size)⟩
      | true =>
        go_wp2_with (first
         | (go_at_call 104;refine hc.mono ?_;clear hc;rintro e w2 ⟨rfl,hB2⟩;have x0':=cell_later x0 hB2;have ho2:w2.ownsMap Tryz.prog 9 RS (w.heap.size + 1) k D:=(by obtain ⟨es,clock,hb',Ft,hs,hD⟩:=hoV;exact ⟨es,clock,(hB2.block _ hlt).trans hb',Ft,hs,hD⟩))
         | (at_mapUpdate;refine wpList_mapUpdate_own _ rfl _ _ _ 106 rfl 9 108 str_law Tryz.underlying106 RS (w.heap.size + 1) k _ rfl ho2 (by unfold maxLen;omega) _ _ _ rfl rfl hkey _ [] rS_unit ?_;intro w3 hown3 hgrow3)
         | go_in)
        have hL2:Lb A.heap.size (w.heap.size + 1) A w2:=hLV.trans (.of_below (hB2.mono hLV.size))
        have hL3:=hL2.trans (Lb.grown hgrow3 hL2.size)
        have hHn:Hs (lstS (fun i=>(q.it i).nm) (k + 1)) _:=HH.out.more hown.isMap (hown.tidy str_law) (q.it k).nm .nil
        have hIn:=HIR.out.next HE.out.symm (fun e=>by have:=HBB.out.2 e;cases this)
        first
         | (refine ⟨⟨k + 1,HKN.out,by simp,⟨_,hown3,hHn⟩,hIn,hL3⟩,?_⟩
            have:=HKN.out
            simp [intOf]
            omega)
         | (go_roundw
            case rel=>exact ⟨k + 1,HKN.out,by go_num,⟨_,hown3,hHn⟩,hIn,hL3⟩
            case measure=>have:=HKN.out;simp [intOf];omega)
  · obtain rfl:k = q.m:=by omega
    go_wp2
    go_ret
    exact ⟨by rw [H0.out HIR.out];rfl,hBr⟩
noncomputable def clN (q:Qy):Nat→Int
 | 0=>cl1 q
 | 1=>cl2 q
 | 2=>cl3 q
 | 3=>cl4 q
 | 4=>cl5 q
 | 5=>cl6 q
 | 6=>cl7 q
 | 7=>cl8 q
 | 8=>cl9 q
 | _=>0
noncomputable def chkQ (q:Qy):Int:=lexN (clN q) 9
theorem checkQ_any (q:Qy) (w:World) (hQ:IsQ w q) (hok:QOk q) (hsm:q.bulk ≤ 1048576):Calls Tryz.prog 15 #[q.val] w (RV (.int .i64 (chkQ q)) w):=by
 have C0:Hid (∀ d,Below w.heap.size w d→Calls Tryz.prog 45 #[q.val] d (RV (.int .i64 (clN q 0)) d)):=fun d h=>cl1_any q d (hQ.later h) hok hsm
 have C1:Hid (∀ d,Below w.heap.size w d→Calls Tryz.prog 46 #[q.val] d (RV (.int .i64 (clN q 1)) d)):=fun d h=>cl2_any q d (hQ.later h) hok hsm
 have C2:Hid (∀ d,Below w.heap.size w d→Calls Tryz.prog 47 #[q.val] d (RV (.int .i64 (clN q 2)) d)):=fun d h=>cl3_any q d (hQ.later h) hok hsm
 have C3:Hid (∀ d,Below w.heap.size w d→Calls Tryz.prog 48 #[q.val] d (RV (.int .i64 (clN q 3)) d)):=fun d h=>cl4_any q d (hQ.later h) hok hsm
 have C4:Hid (∀ d,Below w.heap.size w d→Calls Tryz.prog 49 #[q.val] d (RV (.int .i64 (clN q 4)) d)):=fun d h=>cl5_any q d (hQ.later h) hok hsm
 have C5:Hid (∀ d,Below w.heap.size w d→Calls Tryz.prog 50 #[q.val] d (RV (.int .i64 (clN q 5)) d)):=fun d h=>cl6_any q d (hQ.later h) hok hsm
 have C6:Hid (∀ d,Below w.heap.size w d→Calls Tryz.prog 51 #[q.val] d (RV (.int .i64 (clN q 6)) d)):=fun d h=>cl7_any q d (hQ.later h) hok hsm
 have C7:Hid (∀ d,Below w.heap.size w d→Calls Tryz.prog 52 #[q.val] d (RV (.int .i64 (clN q 7)) d)):=fun d h=>cl8_any q d (hQ.later h) hok hsm
 have C8:Hid (∀ d,Below w.heap.size w d→Calls Tryz.prog 53 #[q.val] d (RV (.int .i64 (clN q 8)) d)):=fun d h=>cl9_any q d (hQ.later h) hok hsm
 have HF:Hid (∀ k,k < 9→(∀ j,j < k→clN q j = 0)→¬ clN q k = 0→chkQ q = clN q k):=fun k hk hz hn=>lexN_first (f:=clN q) hk hz hn
 have HZ:Hid ((∀ j,j < 9→clN q j = 0)→chkQ q = 0):=fun h=>lexN_zero.2 h
 obtain ⟨v,hv⟩:∃ v,v = chkQ q:=⟨_,rfl⟩
 rw [← hv] at HF HZ ⊢
 clear hQ hok hsm hv
 go_enter Tryz.func15,Tryz.ntmps15
 go_upto_region 2 with fail
 obtain ⟨A,hA⟩:∃ A,(w.alloc (.cells q.cells 29)).alloc (.cells q.cells 95) = A:=⟨_,rfl⟩
 have hA':=hA
 unfold Qy.cells at hA'
 rw [hA']
 have hsz:A.heap.size = w.heap.size + 2:=by rw [← hA];simp
 have hB:Below w.heap.size w A:=by rw [← hA];exact (nwB w _).alloc (by simp) _
 have hx1:A.heap[w.heap.size + 1]? = some (.cells q.cells 95 (0,0)):=by
  have:=alloc_new (w.alloc (.cells q.cells 29)) (.cells q.cells 95)
  rw [World.size_alloc,hA] at this
  exact this
 obtain ⟨⟨k0,k1,k2,k3,k4,k5⟩,k6,k7,k8,k9,k10⟩:=qat0 hx1
 clear hA hA' hx1
 go_wp2_with fail
 obtain ⟨qv,hqv⟩:∃ qv:Value,qv = .agg #[.int .i64 q.p.k,.string q.p.s,.string q.p.t,.int .i64 q.p.lo,.int .i64 q.p.hi,.slice q.p.a q.p.n q.p.cap,.slice q.a q.n q.cap,.string q.key,.int .i64 q.mode,.int .i64 q.win,.slice q.ia q.m q.icap]:=⟨_,rfl⟩
 rw [← hqv]
 rw [show q.val = qv from hqv.symm] at C0
 rw [show q.val = qv from hqv.symm] at C1
 rw [show q.val = qv from hqv.symm] at C2
 rw [show q.val = qv from hqv.symm] at C3
 rw [show q.val = qv from hqv.symm] at C4
 rw [show q.val = qv from hqv.symm] at C5
 rw [show q.val = qv from hqv.symm] at C6
 rw [show q.val = qv from hqv.symm] at C7
 rw [show q.val = qv from hqv.symm] at C8
 have HSZ:=hid hsz
 have HB:=hid hB
 obtain ⟨F,hF⟩:∃ F,A.alloc (.cells #[.func (.func 45) #[qv] #[],.func (.func 46) #[qv] #[],.func (.func 47) #[qv] #[],.func (.func 48) #[qv] #[],.func (.func 49) #[qv] #[],.func (.func 50) #[qv] #[],.func (.func 51) #[qv] #[],.func (.func 52) #[qv] #[],.func (.func 53) #[qv] #[]] 96) = F:=⟨_,rfl⟩
 rw [hF]
 have hBF:Below A.heap.size A F:=by rw [← hF];exact nwB _ _
 have hf:=alloc_new A (.cells #[.func (.func 45) #[qv] #[],.func (.func 46) #[qv] #[],.func (.func 47) #[qv] #[],.func (.func 48) #[qv] #[],.func (.func 49) #[qv] #[],.func (.func 50) #[qv] #[],.func (.func 51) #[qv] #[],.func (.func 52) #[qv] #[],.func (.func 53) #[qv] #[]] 96)
 rw [hF,hsz] at hf
 have F0:Hid (F.cell? ⟨w.heap.size + 2,0,none⟩ = some (.func (.func 45) #[qv] #[])):=by show _ = _;simp [World.cell?,hf]
 have F1:Hid (F.cell? ⟨w.heap.size + 2,1,none⟩ = some (.func (.func 46) #[qv] #[])):=by show _ = _;simp [World.cell?,hf]
 have F2:Hid (F.cell? ⟨w.heap.size + 2,2,none⟩ = some (.func (.func 47) #[qv] #[])):=by show _ = _;simp [World.cell?,hf]
 have F3:Hid (F.cell? ⟨w.heap.size + 2,3,none⟩ = some (.func (.func 48) #[qv] #[])):=by show _ = _;simp [World.cell?,hf]
 have F4:Hid (F.cell? ⟨w.heap.size + 2,4,none⟩ = some (.func (.func 49) #[qv] #[])):=by show _ = _;simp [World.cell?,hf]
 have F5:Hid (F.cell? ⟨w.heap.size + 2,5,none⟩ = some (.func (.func 50) #[qv] #[])):=by show _ = _;simp [World.cell?,hf]
 have F6:Hid (F.cell? ⟨w.heap.size + 2,6,none⟩ = some (.func (.func 51) #[qv] #[])):=by show _ = _;simp [World.cell?,hf]
 have F7:Hid (F.cell? ⟨w.heap.size + 2,7,none⟩ = some (.func (.func 52) #[qv] #[])):=by show _ = _;simp [World.cell?,hf]
 have F8:Hid (F.cell? ⟨w.heap.size + 2,8,none⟩ = some (.func (.func 53) #[qv] #[])):=by show _ = _;simp [World.cell?,hf]
 clear hf hF hsz hB k0 k1 k2 k3 k4 k5 k6 k7 k8 k9 k10 hqv
 have hwF:Below w.heap.size w F:=HB.out.trans (hBF.mono HB.out.size)
 go_loopw [28] (fun u wr=>∃ k:Nat,k ≤ 9∧u = .int .i64 k∧Hid (∀ j,j < k→clN q j = 0)∧Below F.heap.size F wr) (fun u _=>9 - (intOf u).toNat)
 case atStart=>exact ⟨0,Nat.zero_le _,rfl,fun j hj=>absurd hj (Nat.not_lt_zero _),Below.refl _ _⟩
 case round =>
  obtain ⟨k,hk,rfl,HK,hBr⟩:=hrel
  have hw:=hwF.trans (hBr.mono hwF.size)
  by_cases hkn:k < 9
  · have hcs:k = 0 ∨ k = 1 ∨ k = 2 ∨ k = 3 ∨ k = 4 ∨ k = 5 ∨ k = 6 ∨ k = 7 ∨ k = 8:=by omega
    clear hk hkn
    rcases hcs with rfl | rfl | rfl | rfl | rfl | rfl | rfl | rfl | rfl
    · have c:=cell_later F0.out hBr
      have hc:=C0.out wr hw
      obtain ⟨z,hz⟩:∃ z,z = clN q 0:=⟨_,rfl⟩
      rw [← hz] at hc
      have HE:=hid hz
      have HW:=hid hw
      clear hz hw
      by_cases hz0:z = 0
      · have t:(z != 0) = false:=by simp [hz0]
        have HZ0:=hid hz0
        clear hz0
        go_wp2_with (first | (go_at_call 45;refine hc.mono ?_;clear hc;rintro e w2 ⟨rfl,hB2⟩))
        have hnx:∀ j,j < 0 + 1→clN q j = 0:=fun j hj=>by
         by_cases e:j = 0
         · rw [e,← HE.out];exact HZ0.out
         · exact HK.out j (by omega)
        first
         | (refine ⟨⟨0 + 1,by omega,by simp,hnx,hBr.trans (hB2.mono hBr.size)⟩,?_⟩
            simp [intOf])
         | (go_roundw
            case rel=>exact ⟨0 + 1,by omega,by go_num,hnx,hBr.trans (hB2.mono hBr.size)⟩
            case measure=>simp [intOf])
      · have t:(z != 0) = true:=by simp [hz0]
        have HZ0:=hid hz0
        clear hz0
        go_wp2_with (first | (go_at_call 45;refine hc.mono ?_;clear hc;rintro e w2 ⟨rfl,hB2⟩))
        try rw [Exit.noGoto_ret]
        go_ret
        exact ⟨by rw [HF.out 0 (by omega) HK.out (HE.out ▸ HZ0.out),← HE.out];rfl,HW.out.trans (hB2.mono HW.out.size)⟩
    · have c:=cell_later F1.out hBr
      have hc:=C1.out wr hw
      obtain ⟨z,hz⟩:∃ z,z = clN q 1:=⟨_,rfl⟩
      rw [← hz] at hc
      have HE:=hid hz
      have HW:=hid hw
      clear hz hw
      by_cases hz0:z = 0
      · have t:(z != 0) = false:=by simp [hz0]
        have HZ0:=hid hz0
        clear hz0
        go_wp2_with (first | (go_at_call 46;refine hc.mono ?_;clear hc;rintro e w2 ⟨rfl,hB2⟩))
        have hnx:∀ j,j < 1 + 1→clN q j = 0:=fun j hj=>by
         by_cases e:j = 1
         · rw [e,← HE.out];exact HZ0.out
         · exact HK.out j (by omega)
        first
         | (refine ⟨⟨1 + 1,by omega,by simp,hnx,hBr.trans (hB2.mono hBr.size)⟩,?_⟩
            simp [intOf])
         | (go_roundw
            case rel=>exact ⟨1 + 1,by omega,by go_num,hnx,hBr.trans (hB2.mono hBr.size)⟩
            case measure=>simp [intOf])
      · have t:(z != 0) = true:=by simp [hz0]
        have HZ0:=hid hz0
        clear hz0
        go_wp2_with (first | (go_at_call 46;refine hc.mono ?_;clear hc;rintro e w2 ⟨rfl,hB2⟩))
        try rw [Exit.noGoto_ret]
        go_ret
        exact ⟨by rw [HF.out 1 (by omega) HK.out (HE.out ▸ HZ0.out),← HE.out];rfl,HW.out.trans (hB2.mono HW.out.size)⟩
    · have c:=cell_later F2.out hBr
      have hc:=C2.out wr hw
      obtain ⟨z,hz⟩:∃ z,z = clN q 2:=⟨_,rfl⟩
      rw [← hz] at hc
      have HE:=hid hz
      have HW:=hid hw
      clear hz hw
      by_cases hz0:z = 0
      · have t:(z != 0) = false:=by simp [hz0]
        have HZ0:=hid hz0
        clear hz0
        go_wp2_with (first | (go_at_call 47;refine hc.mono ?_;clear hc;rintro e w2 ⟨rfl,hB2⟩))
        have hnx:∀ j,j < 2 + 1→clN q j = 0:=fun j hj=>by
         by_cases e:j = 2
         · rw [e,← HE.out];exact HZ0.out
         · exact HK.out j (by omega)
        first
         | (refine ⟨⟨2 + 1,by omega,by simp,hnx,hBr.trans (hB2.mono hBr.size)⟩,?_⟩
            simp [intOf])
         | (go_roundw
            case rel=>exact ⟨2 + 1,by omega,by go_num,hnx,hBr.trans (hB2.mono hBr.size)⟩
            case measure=>simp [intOf])
      · have t:(z != 0) = true:=by simp [hz0]
        have HZ0:=hid hz0
        clear hz0
        go_wp2_with (first | (go_at_call 47;refine hc.mono ?_;clear hc;rintro e w2 ⟨rfl,hB2⟩))
        try rw [Exit.noGoto_ret]
        go_ret
        exact ⟨by rw [HF.out 2 (by omega) HK.out (HE.out ▸ HZ0.out),← HE.out];rfl,HW.out.trans (hB2.mono HW.out.size)⟩
    · have c:=cell_later F3.out hBr
      have hc:=C3.out wr hw
      obtain ⟨z,hz⟩:∃ z,z = clN q 3:=⟨_,rfl⟩
      rw [← hz] at hc
      have HE:=hid hz
      have HW:=hid hw
      clear hz hw
      by_cases hz0:z = 0
      · have t:(z != 0) = false:=by simp [hz0]
        have HZ0:=hid hz0
        clear hz0
        go_wp2_with (first | (go_at_call 48;refine hc.mono ?_;clear hc;rintro e w2 ⟨rfl,hB2⟩))
        have hnx:∀ j,j < 3 + 1→clN q j = 0:=fun j hj=>by
         by_cases e:j = 3
         · rw [e,← HE.out];exact HZ0.out
         · exact HK.out j (by omega)
        first
         | (refine ⟨⟨3 + 1,by omega,by simp,hnx,hBr.trans (hB2.mono hBr.size)⟩,?_⟩
            simp [intOf])
         | (go_roundw
            case rel=>exact ⟨3 + 1,by omega,by go_num,hnx,hBr.trans (hB2.mono hBr.size)⟩
            case measure=>simp [intOf])
      · have t:(z != 0) = true:=by simp [hz0]
        have HZ0:=hid hz0
        clear hz0
        go_wp2_with (first | (go_at_call 48;refine hc.mono ?_;clear hc;rintro e w2 ⟨rfl,hB2⟩))
        try rw [Exit.noGoto_ret]
        go_ret
        exact ⟨by rw [HF.out 3 (by omega) HK.out (HE.out ▸ HZ0.out),← HE.out];rfl,HW.out.trans (hB2.mono HW.out.size)⟩
    · have c:=cell_later F4.out hBr
      have hc:=C4.out wr hw
      obtain ⟨z,hz⟩:∃ z,z = clN q 4:=⟨_,rfl⟩
      rw [← hz] at hc
      have HE:=hid hz
      have HW:=hid hw
      clear hz hw
      by_cases hz0:z = 0
      · have t:(z != 0) = false:=by simp [hz0]
        have HZ0:=hid hz0
        clear hz0
        go_wp2_with (first | (go_at_call 49;refine hc.mono ?_;clear hc;rintro e w2 ⟨rfl,hB2⟩))
        have hnx:∀ j,j < 4 + 1→clN q j = 0:=fun j hj=>by
         by_cases e:j = 4
         · rw [e,← HE.out];exact HZ0.out
         · exact HK.out j (by omega)
        first
         | (refine ⟨⟨4 + 1,by omega,by simp,hnx,hBr.trans (hB2.mono hBr.size)⟩,?_⟩
            simp [intOf])
         | (go_roundw
            case rel=>exact ⟨4 + 1,by omega,by go_num,hnx,hBr.trans (hB2.mono hBr.size)⟩
            case measure=>simp [intOf])
      · have t:(z != 0) = true:=by simp [hz0]
        have HZ0:=hid hz0
        clear hz0
        go_wp2_with (first | (go_at_call 49;refine hc.mono ?_;clear hc;rintro e w2 ⟨rfl,hB2⟩))
        try rw [Exit.noGoto_ret]
        go_ret
        exact ⟨by rw [HF.out 4 (by omega) HK.out (HE.out ▸ HZ0.out),← HE.out];rfl,HW.out.trans (hB2.mono HW.out.size)⟩
    · have c:=cell_later F5.out hBr
      have hc:=C5.out wr hw
      obtain ⟨z,hz⟩:∃ z,z = clN q 5:=⟨_,rfl⟩
      rw [← hz] at hc
      have HE:=hid hz
      have HW:=hid hw
      clear hz hw
      by_cases hz0:z = 0
      · have t:(z != 0) = false:=by simp [hz0]
        have HZ0:=hid hz0
        clear hz0
        go_wp2_with (first | (go_at_call 50;refine hc.mono ?_;clear hc;rintro e w2 ⟨rfl,hB2⟩))
        have hnx:∀ j,j < 5 + 1→clN q j = 0:=fun j hj=>by
         by_cases e:j = 5
         · rw [e,← HE.out];exact HZ0.out
         · exact HK.out j (by omega)
        first
         | (refine ⟨⟨5 + 1,by omega,by simp,hnx,hBr.trans (hB2.mono hBr.size)⟩,?_⟩
            simp [intOf])
         | (go_roundw
            case rel=>exact ⟨5 + 1,by omega,by go_num,hnx,hBr.trans (hB2.mono hBr.size)⟩
            case measure=>simp [intOf])
      · have t:(z != 0) = true:=by simp [hz0]
        have HZ0:=hid hz0
        clear hz0
        go_wp2_with (first | (go_at_call 50;refine hc.mono ?_;clear hc;rintro e w2 ⟨rfl,hB2⟩))
        try rw [Exit.noGoto_ret]
        go_ret
        exact ⟨by rw [HF.out 5 (by omega) HK.out (HE.out ▸ HZ0.out),← HE.out];rfl,HW.out.trans (hB2.mono HW.out.size)⟩
    · have c:=cell_later F6.out hBr
      have hc:=C6.out wr hw
      obtain ⟨z,hz⟩:∃ z,z = clN q 6:=⟨_,rfl⟩
      rw [← hz] at hc
      have HE:=hid hz
      have HW:=hid hw
      clear hz hw
      by_cases hz0:z = 0
      · have t:(z != 0) = false:=by simp [hz0]
        have HZ0:=hid hz0
        clear hz0
        go_wp2_with (first | (go_at_call 51;refine hc.mono ?_;clear hc;rintro e w2 ⟨rfl,hB2⟩))
        have hnx:∀ j,j < 6 + 1→clN q j = 0:=fun j hj=>by
         by_cases e:j = 6
         · rw [e,← HE.out];exact HZ0.out
         · exact HK.out j (by omega)
        first
         | (refine ⟨⟨6 + 1,by omega,by simp,hnx,hBr.trans (hB2.mono hBr.size)⟩,?_⟩
            simp [intOf])
         | (go_roundw
            case rel=>exact ⟨6 + 1,by omega,by go_num,hnx,hBr.trans (hB2.mono hBr.size)⟩
            case measure=>simp [intOf])
      · have t:(z != 0) = true:=by simp [hz0]
        have HZ0:=hid hz0
        clear hz0
        go_wp2_with (first | (go_at_call 51;refine hc.mono ?_;clear hc;rintro e w2 ⟨rfl,hB2⟩))
        try rw [Exit.noGoto_ret]
        go_ret
        exact ⟨by rw [HF.out 6 (by omega) HK.out (HE.out ▸ HZ0.out),← HE.out];rfl,HW.out.trans (hB2.mono HW.out.size)⟩
    · have c:=cell_later F7.out hBr
      have hc:=C7.out wr hw
      obtain ⟨z,hz⟩:∃ z,z = clN q 7:=⟨_,rfl⟩
      rw [← hz] at hc
      have HE:=hid hz
      have HW:=hid hw
      clear hz hw
      by_cases hz0:z = 0
      · have t:(z != 0) = false:=by simp [hz0]
        have HZ0:=hid hz0
        clear hz0
        go_wp2_with (first | (go_at_call 52;refine hc.mono ?_;clear hc;rintro e w2 ⟨rfl,hB2⟩))
        have hnx:∀ j,j < 7 + 1→clN q j = 0:=fun j hj=>by
         by_cases e:j = 7
         · rw [e,← HE.out];exact HZ0.out
         · exact HK.out j (by omega)
        first
         | (refine ⟨⟨7 + 1,by omega,by simp,hnx,hBr.trans (hB2.mono hBr.size)⟩,?_⟩
            simp [intOf])
         | (go_roundw
            case rel=>exact ⟨7 + 1,by omega,by go_num,hnx,hBr.trans (hB2.mono hBr.size)⟩
            case measure=>simp [intOf])
      · have t:(z != 0) = true:=by simp [hz0]
        have HZ0:=hid hz0
        clear hz0
        go_wp2_with (first | (go_at_call 52;refine hc.mono ?_;clear hc;rintro e w2 ⟨rfl,hB2⟩))
        try rw [Exit.noGoto_ret]
        go_ret
        exact ⟨by rw [HF.out 7 (by omega) HK.out (HE.out ▸ HZ0.out),← HE.out];rfl,HW.out.trans (hB2.mono HW.out.size)⟩
    · have c:=cell_later F8.out hBr
      have hc:=C8.out wr hw
      obtain ⟨z,hz⟩:∃ z,z = clN q 8:=⟨_,rfl⟩
      rw [← hz] at hc
      have HE:=hid hz
      have HW:=hid hw
      clear hz hw
      by_cases hz0:z = 0
      · have t:(z != 0) = false:=by simp [hz0]
        have HZ0:=hid hz0
        clear hz0
        go_wp2_with (first | (go_at_call 53;refine hc.mono ?_;clear hc;rintro e w2 ⟨rfl,hB2⟩))
        have hnx:∀ j,j < 8 + 1→clN q j = 0:=fun j hj=>by
         by_cases e:j = 8
         · rw [e,← HE.out];exact HZ0.out
         · exact HK.out j (by omega)
        first
         | (refine ⟨⟨8 + 1,by omega,by simp,hnx,hBr.trans (hB2.mono hBr.size)⟩,?_⟩
            simp [intOf])
         | (go_roundw
            case rel=>exact ⟨8 + 1,by omega,by go_num,hnx,hBr.trans (hB2.mono hBr.size)⟩
            case measure=>simp [intOf])
      · have t:(z != 0) = true:=by simp [hz0]
        have HZ0:=hid hz0
        clear hz0
        go_wp2_with (first | (go_at_call 53;refine hc.mono ?_;clear hc;rintro e w2 ⟨rfl,hB2⟩))
        try rw [Exit.noGoto_ret]
        go_ret
        exact ⟨by rw [HF.out 8 (by omega) HK.out (HE.out ▸ HZ0.out),← HE.out];rfl,HW.out.trans (hB2.mono HW.out.size)⟩
  · obtain rfl:k = 9:=by omega
    go_wp2
    go_ret
    exact ⟨by rw [HZ.out HK.out];rfl,hw⟩
open Go.Sort
theorem push_after {q:Qy} {A w1 w2 w3:World} {n₀:Nat} {v1:Value} {a:Option Addr} {cap:Nat} {L:List ByteArray} (hL:L = namesP q.p ++ varsX q.x) (_:A.heap.size = n₀ + 2) (hb:q.p.size + q.x.size + q.m ≤ 1048576)
 (h1:w1.ownsRow A.heap.size 9 1 v1 (vs1 (firstL (usesP q.p)) (firstL (usesP q.p)).length).length (vs1 (firstL (usesP q.p)) (firstL (usesP q.p)).length)) (b1:RowKit.Below A.heap.size A w1) (b2:RowKit.Below w1.heap.size w1 w2) (b3:RowKit.Below w2.heap.size w2 w3)
 (hT:Txs w3 a (varsX q.x).length (atS (varsX q.x))) :
 ∃ v5 w5,(Builtin.append_ #[37,37] 37 #[v1,.slice a (varsX q.x).length cap]).run Tryz.prog w3 = .ok v5 w5∧w5.ownsRow A.heap.size 9 1 v5 L.length (cellsS L)∧RowKit.Below A.heap.size A w5:=by
 subst hL
 have e:vs1 (firstL (usesP q.p)) (firstL (usesP q.p)).length = cellsS (namesP q.p):=by simp [vs1,cellsS,namesP,List.take_length]
 rw [e] at h1
 have el:(cellsS (namesP q.p)).length = (namesP q.p).length:=by simp [cellsS]
 rw [el] at h1
 have b23:=b2.trans (b3.mono b2.size)
 have h3:=own_laterS h1 b23
 have bA:=b1.trans (b23.mono b1.size)
 have hp:=namesP_len q.p
 have hx:=vars_len q.x
 obtain ⟨v5,w5,hrun,hown,hgr⟩:=push_strs h3 bA.size a (varsX q.x).length cap (atS (varsX q.x)) hT (by omega)
 rw [lstS_all] at hown
 exact ⟨v5,w5,hrun,hown,bA.grown hgr bA.size fun k e=>(h3.lt k e).1⟩
theorem namesQ_any (q:Qy) (w:World) (hQ:IsQ w q) (hok:QOk q) (hsm:q.bulk ≤ 1048576) :
 Calls Tryz.prog 18 #[q.val] w fun e w'=>∃ v,e = .returned v∧w'.ownsRow w.heap.size 9 1 v (namesQ q).length (cellsS (namesQ q))∧Below w.heap.size w w':=by
 have hb:=hsm
 unfold Qy.bulk at hb
 have hmm:=@run_makeMap Tryz.prog
 have HQ:=hid hQ
 have HO:Hid (∀ s ∈ allV q,s.size ≤ maxLen):=allV_ok hok
 have HOK:=hid hok
 obtain ⟨L,hL⟩:∃ L,L = namesP q.p ++ varsX q.x:=⟨_,rfl⟩
 have HL:=hid hL
 clear hQ hok hsm hL
 go_enter Tryz.func18,Tryz.ntmps18
 go_upto_region 2 with fail
 obtain ⟨A,hA⟩:∃ A,(w.alloc (.cells q.cells 29)).alloc (.map #[] 0) = A:=⟨_,rfl⟩
 have hsz:A.heap.size = w.heap.size + 2:=by rw [← hA];simp
 have hB:Below w.heap.size w A:=by rw [← hA];exact (nwB w _).alloc (by simp) _
 have qb0:QB A w.heap.size q:=by rw [← hA];exact (alloc_old (by simp)).trans (QB.new w q)
 have mb0:A.ownsMap Tryz.prog 9 RU (w.heap.size + 1) 0 (.map []):=by
  have:=World.ownsMap_made (w.alloc (.cells q.cells 29)) Tryz.prog 9 RU
  rw [World.size_alloc,hA] at this
  exact this
 rw [hA]
 obtain ⟨⟨k0,k1,k2,k3,k4,k5⟩,k6,-⟩:=qb0.at0
 have C1:Hid (Calls Tryz.prog 17 #[q.p.val] A _):=vars12_any q.p A (HQ.out.p.later hB) (by omega) HOK.out.p
 have C2:Hid (∀ d,Calls Tryz.prog 60 #[.slice q.a q.n q.cap] d _):=fun d=>joined_any q.a q.n q.cap q.c d
 have C3:Hid (∀ d,RowKit.Below A.heap.size A d→Calls Tryz.prog 43 #[q.x.val] d _):=fun d h=>vars_any q.x d (HQ.out.x.later (hB.trans (h.mono hB.size))) (by omega)
 have QB0:=hid qb0
 have MB0:=hid mb0
 have HB:=hid hB
 have HSZ:=hid hsz
 clear hA qb0 mb0 hsz hB hmm
 go_wp2_with (first
  | (go_at_call 17;refine C1.out.mono ?_;rintro e w1 ⟨v1,v2,v3,rfl,hR3,hB1⟩;have d6:=(QB0.out.later hB1).at0.2.1;have HR3:Hid _:=hR3.o1;clear hR3 k0 k1 k2 k3 k4 k5 k6)
  | (go_at_call 60;refine (C2.out _).mono ?_;rintro e w2 ⟨rfl,hB2⟩)
  | (go_at_call 43;refine (C3.out _ (hB1.trans (hB2.mono hB1.size))).mono ?_;rintro e w3 ⟨v4,rfl,hR4,hB3⟩;obtain ⟨a4,cap4,rfl,hT4,hl4,hc4⟩:=own_txs hR4;obtain ⟨v5,w5,hrun,hown5,hgr5⟩:=push_after (q:=q) HL.out HSZ.out hb HR3.out hB1 hB2 hB3 hT4 (cap:=cap4);obtain ⟨a5,cap5,rfl,hT5,hl5,hc5⟩:=own_txs hown5;have HR5:=hid hrun;clear hrun hR4)
  | (at_builtin;refine wpList_append_run rfl (.tmp 19) (.tmp 23) 37 rfl _ _ _ rfl rfl HR5.out ?_))
 have hB5:RowKit.Below w.heap.size w w5:=HB.out.trans (hgr5.mono HB.out.size)
 have QB5:Hid (QB w5 w.heap.size q):=QB0.out.later hgr5
 have hMlt:w.heap.size + 1 < A.heap.size:=by have:=HSZ.out;omega
 have MB5:Hid (w5.ownsMap Tryz.prog 9 RU (w.heap.size + 1) 0 (.map [])):=by
  obtain ⟨es,clock,hb',Ft,hs,hD⟩:=MB0.out
  exact ⟨es,clock,(hgr5.block _ hMlt).trans hb',Ft,hs,hD⟩
 have hN5:w.heap.size + 2 ≤ w5.heap.size:=by have:=HSZ.out;have:=hgr5.size;omega
 have hLl:L.length + q.m ≤ 1048576:=by
  have h1:=namesP_len q.p
  have h2:=vars_len q.x
  rw [HL.out,List.length_append]
  omega
 have HT5:Hid (Txs w5 a5 L.length (atS L)∧∀ b o,a5 = some ⟨b,o,none⟩→0 < L.length→w.heap.size + 2 ≤ b):=by
  refine ⟨hT5,fun b o e h0=>?_⟩
  rcases hown5.2 with ⟨e',_⟩ | ⟨g,cap,cur,e',hg,_⟩
  · injection e' with e1 _ _
    rw [e1] at e;cases e
  · injection e' with e1 _ _
    rw [e1] at e;cases e
    have:=HSZ.out;omega
 clear hT4 hl4 hc4 hT5 hl5 hc5 hown5 hgr5 hB1 hB2 hB3 HR3 HR5 C1 C2 C3 QB0 MB0 HSZ d6 hMlt HB
 have HAL:Hid (∀ k,k < L.length→(atS L k).size ≤ maxLen):=fun k hk=>by
  refine HO.out _ ?_
  rw [allV,List.mem_append,← HL.out]
  refine .inl ?_
  unfold atS
  rw [List.getD_eq_getElem?_getD,List.getElem?_eq_getElem hk]
  exact List.getElem_mem hk
 have HTS:Hid (∀ k,k < L.length→L.take (k + 1) = L.take k ++ [atS L k]):=fun k hk=>take_snoc _ k hk
 go_loopw [26] (fun v wr=>∃ k:Nat,k ≤ L.length∧v = .int .i64 k∧(∃ D,wr.ownsMap Tryz.prog 9 RU (w.heap.size + 1) k D∧Hid (Hs (L.take k) D))∧Lb w5.heap.size (w.heap.size + 1) w5 wr) (fun v _=>L.length - (intOf v).toNat)
 case atStart=>exact ⟨0,Nat.zero_le _,rfl,⟨_,MB5.out,hs_none⟩,Lb.refl _ _ _⟩
 case round =>
  obtain ⟨k,hk,rfl,⟨D,hown,HH⟩,hLb⟩:=hrel
  by_cases hkn:k < L.length
  · obtain ⟨⟨b,o,rfl,hcs⟩,hbo⟩:=And.intro (HT5.out.1 (by omega)) HT5.out.2
    have hbm:=hbo b o rfl (by omega)
    have hblt:=World.block_lt_of_cell? w5 _ (hcs k hkn)
    have c0:wr.cell? ⟨b,o + k,none⟩ = some (.string (atS L k)):=by
     rw [World.cell?_of_block (w:=w5) (w':=wr) (a:=⟨b,o + k,none⟩) (hLb.block b hblt (by omega))]
     exact hcs k hkn
    have HKN:=hid hkn
    have hkey:keyOf Tryz.prog 9 (.string (atS L k)) = some (keyS (atS L k)):=keyOf_string_mk Tryz.underlying9 (HAL.out k hkn)
    clear hcs hbo
    go_wp2_with (first
     | (at_mapUpdate;refine wpList_mapUpdate_own _ rfl _ _ _ 106 rfl 9 108 str_law Tryz.underlying106 RU (w.heap.size + 1) k _ rfl hown (by unfold maxLen;omega) _ _ _ rfl rfl hkey _ [] rfl ?_;intro w1 hown1 hgrow1)
     | go_in)
    go_roundw
    case rel=>exact ⟨k + 1,by omega,by go_num,⟨_,hown1,by show Hs _ _;rw [HTS.out k HKN.out];exact HH.out.more hown.isMap (hown.tidy str_law) _ _⟩,hLb.trans (Lb.grown hgrow1 hLb.size)⟩
    case measure=>simp [intOf];omega
  · obtain rfl:k = L.length:=by omega
    have QB6:QB wr w.heap.size q:=(hLb.block _ (by omega) (by omega)).trans QB5.out
    have c10:=QB6.at0.2.2.2.2.2
    have hH6:Hs L D:=by have:=HH.out;rw [List.take_length] at this;exact this
    have HH6:=hid hH6
    have hB6:RowKit.Below w.heap.size w wr:=hB5.trans (hLb.below (by omega) (by omega))
    have HITS:Hid (Its w q.ia q.m q.it):=HQ.out.it
    have HOI:Hid (∀ i,i < q.m→(q.it i).s.size ≤ maxLen):=fun i hi=>(HOK.out.it i hi).2.1
    clear HH hH6 QB6 HT5 HAL HTS hk hkn
    go_wp2_with fail
    obtain ⟨w6,hw6⟩:∃ w6,w6 = wr:=⟨_,rfl⟩
    rw [← hw6] at hB6 hown hLb ⊢
    clear c10 hw6
    have hM6:w.heap.size + 1 < w6.heap.size:=by have:=hLb.size;omega
    go_loopw [37] (fun v wr=>∃ k:Nat,k ≤ q.m∧v = .int .i64 k∧(∃ D,wr.ownsMap Tryz.prog 9 RU (w.heap.size + 1) (L.length + k) D∧Hid (Hs (L ++ lstS (fun i=>(q.it i).s) k) D))∧Lb w6.heap.size (w.heap.size + 1) w6 wr) (fun v _=>q.m - (intOf v).toNat)
    case atStart=>exact ⟨0,Nat.zero_le _,rfl,⟨D,hown,by show Hs _ _;rw [lstS,List.append_nil];exact HH6.out⟩,Lb.refl _ _ _⟩
    case round =>
     obtain ⟨k,hk,rfl,⟨D2,hown2,HH2⟩,hLb2⟩:=hrel
     have hBr:RowKit.Below w.heap.size w wr:=hB6.trans (hLb2.below (by omega) (by omega))
     by_cases hkn:k < q.m
     · obtain ⟨b,o,ea,i0,i1,i2,i3⟩:=(HITS.out.later hBr) k hkn
       rw [ea]
       have HKN:=hid hkn
       have hkey:keyOf Tryz.prog 9 (.string (q.it k).s) = some (keyS (q.it k).s):=keyOf_string_mk Tryz.underlying9 (HOI.out k hkn)
       have hownA:(wr.alloc (.cells (q.it k).cells 77)).ownsMap Tryz.prog 9 RU (w.heap.size + 1) (L.length + k) D2:=hown2.alloc _
       have HLA:Hid (Lb w6.heap.size (w.heap.size + 1) w6 (wr.alloc (.cells (q.it k).cells 77))):=hLb2.trans (.of_below ((RowKit.Below.refl _ _).alloc hLb2.size _))
       clear ea
       go_wp2_with (first
        | (at_mapUpdate;refine wpList_mapUpdate_own _ rfl _ _ _ 106 rfl 9 108 str_law Tryz.underlying106 RU (w.heap.size + 1) (L.length + k) _ rfl hownA (by unfold maxLen;omega) _ _ _ rfl rfl hkey _ [] rfl ?_;intro w1 hown1 hgrow1)
        | go_in)
       refine ⟨⟨k + 1,hkn,by simp,⟨_,by rw [← Nat.add_assoc];exact hown1,?_⟩,HLA.out.trans (Lb.grown hgrow1 HLA.out.size)⟩,?_⟩
       · show Hs _ _
         rw [lstS,← List.append_assoc]
         exact HH2.out.more hown2.isMap (hown2.tidy str_law) _ _
       · simp [intOf]
         omega
     · obtain rfl:k = q.m:=by omega
       have hH:Hs (allV q) D2:=by have:=HH2.out;rw [HL.out] at this;exact this
       have hsz:Maps.size D2 ≤ 1048576:=by
        have h1:=HH2.out.le
        rw [List.length_append,lstS_len] at h1
        omega
       have C5:Hid (∀ mb d,Calls Tryz.prog 61 #[.map mb] d _):=fun mb d=>keysM_any mb d
       have C6:Hid (Calls Tryz.prog 38 #[.func (.func 109) #[] #[.pointer (some ⟨wr.heap.size,0,none⟩)]] (wr.alloc (.cells #[.map (some (w.heap.size + 1))] 106)) _):=sortedM_any (w.heap.size + 1) (L.length + q.m) D2 RU wr hown2 (by unfold maxLen;omega) (by omega)
       have HSK:Hid (∀ ss:List (List UInt8),ss.Perm (strKeys D2)→(sortB ss).map encStr = cellsS (namesQ q)∧ss.length = (namesQ q).length):=fun ss hp=>sorted_keys hown2 (namesQ_sorted q) (fun s=>by rw [namesQ_mem];exact (hH.has s).symm) hp
       clear hH hsz
       go_wp2_with (first
        | (go_at_call 61;refine (C5.out _ _).mono ?_;rintro e w7 ⟨rfl,hw7⟩;subst hw7)
        | (go_at_call 38;refine C6.out.mono ?_;rintro e w8 ⟨v8,ss,rfl,hperm,hrow,hB8⟩))
       go_ret
       obtain ⟨hc1,hc2⟩:=HSK.out ss hperm
       rw [hc1,hc2] at hrow
       refine ⟨v8,rfl,own_low hrow ?_,hBr.trans ?_⟩
       · simp
         have:=hBr.size
         omega
       · exact ((RowKit.Below.refl _ _).alloc hBr.size _).trans (hB8.mono (by simp;have:=hBr.size;omega))
end Go.Proofs.YtkfpgkohkhhlhaaGreatDoor
