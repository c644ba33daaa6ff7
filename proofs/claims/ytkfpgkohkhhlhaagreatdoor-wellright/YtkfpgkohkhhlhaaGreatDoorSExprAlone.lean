/- Texts that the last one stands on. -/
import Derived.Test.YtkfpgkohkhhlhaaGreatDoorSExprBase
set_option maxRecDepth 100000
set_option maxHeartbeats 8000000
namespace Go.Proofs.YtkfpgkohkhhlhaaGreatDoor
open Go.RowKit
theorem lexN_not {f:Nat→Int} {k:Nat} (h0:lexN f k = 0) (h:¬ f k = 0):∀ {n:Nat},k < n→lexN f n = f k
 | 0,hn=>by omega
 | n + 1,hn=>by
   by_cases e:k = n
   · subst e
     show (if lexN f k = 0 then f k else lexN f k) = f k
     rw [if_pos h0]
   · have:=lexN_not h0 h (show k < n by omega)
     show (if lexN f n = 0 then f n else lexN f n) = f k
     rw [this,if_neg h]
theorem or_any (b n:Nat) (V:Nat→Int) (w:World) (hn:n ≤ 9223372036854775807) (hc:∀ k,k < n→w.cell? ⟨b,k,none⟩ = some (.int .i64 (V k))) :
 Calls Tryz.prog 196 #[.slice (some ⟨b,0,none⟩) n n] w fun e w'=>e = .returned (.int .i64 (lexN V n))∧w' = w:=by
 obtain ⟨r,hr⟩:∃ r,r = lexN V n:=⟨_,rfl⟩
 rw [← hr]
 have HR:=hid hr
 have HC:=hid hc
 clear hc hr
 go_enter Tryz.func196,Tryz.ntmps196
 go_wp2
 go_loopw [8] (fun u wr=>∃ k:Nat,k ≤ n∧u = .int .i64 k∧Hid (lexN V k = 0)∧wr = w) (fun u _=>n - (intOf u).toNat)
 case atStart=>exact ⟨0,Nat.zero_le _,rfl,rfl,rfl⟩
 case round =>
  obtain ⟨k,hk,rfl,H0,rfl⟩:=hrel
  by_cases hkn:k < n
  · have c:=HC.out k hkn
    have HK:=hid hkn
    by_cases hv:V k = 0
    · have HV:=hid hv
      have hv':(V k == 0) = true:=by simpa using hv
      clear hv
      go_wp2
      go_roundw
      case rel=>exact ⟨k + 1,HK.out,by go_num,by show (if lexN V k = 0 then V k else lexN V k) = 0;rw [if_pos H0.out];exact HV.out,by first | trivial | rfl⟩
      case measure=>have:=HK.out;simp [intOf];omega
    · have HV:=hid hv
      have hv':(V k == 0) = false:=by simpa using hv
      clear hv
      go_wp2
      try rw [Exit.noGoto_ret]
      go_ret
      exact ⟨ret_int (by rw [HR.out,lexN_not H0.out HV.out HK.out]),rfl⟩
  · obtain rfl:k = n:=by omega
    go_wp2
    go_ret
    exact ⟨ret_int (by rw [HR.out,H0.out]),rfl⟩
def alZ (x y:X):Int:=orI (cmpI x.k y.k) (orI (ordV x.v y.v) (orI (cmpS x.s y.s) (orI (cmpS x.f y.f) (cmpI x.n y.n))))
def five (a b c d e:Int):Nat→Int
 | 0=>a
 | 1=>b
 | 2=>c
 | 3=>d
 | _=>e
theorem lex_five (a b c d e:Int):lexN (five a b c d e) 5 = orI a (orI b (orI c (orI d e))):=by
 simp only [lexN,five]
 unfold orI
 by_cases h1:a = 0 <;> by_cases h2:b = 0 <;> by_cases h3:c = 0 <;> by_cases h4:d = 0 <;> simp [h1,h2,h3,h4]
def Nodes (w:World) (b o:Nat) (x:X) (b' o':Nat) (y:X):Prop:=Node w b o x∧Node w b' o' y
theorem alone_any (b o b' o':Nat) (x y:X) (w:World) (hx:Node w b o x) (hy:Node w b' o' y) :
 Calls Tryz.prog 173 #[.pointer (some ⟨b,o,none⟩),.pointer (some ⟨b',o',none⟩)] w (RV (.int .i64 (alZ x y)) w):=by
 have HX:=hid hx
 have HY:=hid hy
 clear hx hy
 obtain ⟨W,hW⟩:∃ W,W = w:=⟨_,rfl⟩
 rw [← hW] at HX HY ⊢
 clear hW
 go_enter Tryz.func173,Tryz.ntmps173
 go_wp2_with fail
 refine bg fun d hHeld=>?_
 have hT:=hHeld
 refine tk 0 ?_
 refine tk 1 ?_
 refine tk 2 ?_
 refine tk 3 ?_ (hy:=fun w9 hSw=>by have nn:=HX.out.later hSw;have c0:=nn.1;clear nn;go_simp;(try with_reducible rfl))
 refine tk 4 ?_
 refine tk 5 ?_
 refine tk 6 ?_
 refine tk 7 ?_ (hy:=fun w9 hSw=>by have nn:=HY.out.later hSw;have c0:=nn.1;clear nn;go_simp;(try with_reducible rfl))
 refine tk 9 ?_
 refine tk 10 ?_
 refine tk 11 ?_
 refine tk 12 ?_ (hy:=fun w9 hSw=>by have nn:=HX.out.later hSw;have c0:=nn.2.1;have c1:=nn.2.2.1;have c2:=nn.2.2.2.1;clear nn;go_simp;(try with_reducible rfl))
 refine tk 13 ?_
 refine tk 14 ?_
 refine tk 15 ?_
 refine tk 16 ?_ (hy:=fun w9 hSw=>by have nn:=HY.out.later hSw;have c0:=nn.2.1;have c1:=nn.2.2.1;have c2:=nn.2.2.2.1;clear nn;go_simp;(try with_reducible rfl))
 refine tk 18 ?_
 refine tk 19 ?_
 refine tk 20 ?_
 refine tk 21 ?_ (hy:=fun w9 hSw=>by have nn:=HX.out.later hSw;have c0:=nn.2.2.2.2.1;clear nn;go_simp;(try with_reducible rfl))
 refine tk 22 ?_
 refine tk 23 ?_
 refine tk 24 ?_
 refine tk 25 ?_ (hy:=fun w9 hSw=>by have nn:=HY.out.later hSw;have c0:=nn.2.2.2.2.1;clear nn;go_simp;(try with_reducible rfl))
 refine tk 27 ?_
 refine tk 28 ?_
 refine tk 29 ?_
 refine tk 30 ?_ (hy:=fun w9 hSw=>by have nn:=HX.out.later hSw;have c0:=nn.2.2.2.2.2.1;clear nn;go_simp;(try with_reducible rfl))
 refine tk 31 ?_
 refine tk 32 ?_
 refine tk 33 ?_
 refine tk 34 ?_ (hy:=fun w9 hSw=>by have nn:=HY.out.later hSw;have c0:=nn.2.2.2.2.2.1;clear nn;go_simp;(try with_reducible rfl))
 refine tk 36 ?_
 refine tk 37 ?_
 refine tk 38 ?_
 refine tk 39 ?_ (hy:=fun w9 hSw=>by have nn:=HX.out.later hSw;have c0:=nn.2.2.2.2.2.2;clear nn;go_simp;(try with_reducible rfl))
 refine tk 40 ?_
 refine tk 41 ?_
 refine tk 42 ?_
 refine tk 43 ?_
 refine tk 44 ?_ (hy:=fun w9 hSw=>by have nn:=HY.out.later hSw;have c0:=nn.2.2.2.2.2.2;clear nn;go_simp;(try with_reducible rfl))
 refine tk 45 ?_
 refine rd 8 fun K hK=>?_
 go_simp
 refine (cmpInt_any _ _ _).mono ?_
 rintro e x8 ⟨rfl,hx8⟩
 replace hx8:=hx8.symm
 subst hx8
 go_wp2_with fail
 refine hK.out _ _ hHeld (fun _=>?_)
 clear hK K
 try simp only [Act.put,s_put,s_0,s_1]
 refine rd 17 fun K hK=>?_
 go_simp
 refine (order_any _ _ _ _ _ _ _).mono ?_
 rintro e x17 ⟨rfl,hN17⟩
 go_wp2_with fail
 refine up hK hHeld hN17 ?_
 replace hT:=hT.trans (hN17.mono hT.size)
 replace hHeld:=Below.refl x17.heap.size x17
 clear hK K hN17
 refine rd 26 fun K hK=>?_
 go_simp
 refine (cmpStr_any _ _ _).mono ?_
 rintro e x26 ⟨rfl,hx26⟩
 replace hx26:=hx26.symm
 subst hx26
 go_wp2_with fail
 refine hK.out _ _ hHeld (fun _=>?_)
 clear hK K
 try simp only [Act.put,s_put,s_0,s_1]
 refine rd 35 fun K hK=>?_
 go_simp
 refine (cmpStr_any _ _ _).mono ?_
 rintro e x35 ⟨rfl,hx35⟩
 replace hx35:=hx35.symm
 subst hx35
 go_wp2_with fail
 refine hK.out _ _ hHeld (fun _=>?_)
 clear hK K
 try simp only [Act.put,s_put,s_0,s_1]
 refine rd 46 fun K hK=>?_
 go_simp
 refine (cmpInt_any _ _ _).mono ?_
 rintro e x46 ⟨rfl,hx46⟩
 replace hx46:=hx46.symm
 subst hx46
 go_wp2_with fail
 refine hK.out _ _ hHeld (fun _=>?_)
 clear hK K
 try simp only [Act.put,s_put,s_0,s_1]
 refine rd 47 fun K hK=>?_
 go_simp
 have hT47:=hHeld.alloc hHeld.size (.cells #[.int .i64 (cmpI x.k y.k),.int .i64 (ordZ x.v.k x.v.n x.v.s y.v.k y.v.n y.v.s),.int .i64 (cmpS x.s y.s),.int .i64 (cmpS x.f y.f),.int .i64 (cmpI x.n y.n)] 3)
 refine hK.out _ _ hT47 (fun _=>?_)
 clear hK K hHeld
 have hHeld:=hT47
 clear hT47
 have C48:Calls Tryz.prog 196 #[.slice (some ⟨x17.heap.size,0,none⟩) 5 5] (x17.alloc (.cells #[.int .i64 (cmpI x.k y.k),.int .i64 (ordZ x.v.k x.v.n x.v.s y.v.k y.v.n y.v.s),.int .i64 (cmpS x.s y.s),.int .i64 (cmpS x.f y.f),.int .i64 (cmpI x.n y.n)] 3)) fun e w'=>e = .returned (.int .i64 (alZ x y))∧w' = (x17.alloc (.cells #[.int .i64 (cmpI x.k y.k),.int .i64 (ordZ x.v.k x.v.n x.v.s y.v.k y.v.n y.v.s),.int .i64 (cmpS x.s y.s),.int .i64 (cmpS x.f y.f),.int .i64 (cmpI x.n y.n)] 3)):=by
  have h:=or_any x17.heap.size 5 (five (cmpI x.k y.k) (ordZ x.v.k x.v.n x.v.s y.v.k y.v.n y.v.s) (cmpS x.s y.s) (cmpS x.f y.f) (cmpI x.n y.n)) (x17.alloc (.cells #[.int .i64 (cmpI x.k y.k),.int .i64 (ordZ x.v.k x.v.n x.v.s y.v.k y.v.n y.v.s),.int .i64 (cmpS x.s y.s),.int .i64 (cmpS x.f y.f),.int .i64 (cmpI x.n y.n)] 3)) (by omega) (fun k hk=>by match k,hk with | 0,_=>simp [five] | 1,_=>simp [five] | 2,_=>simp [five] | 3,_=>simp [five] | 4,_=>simp [five])
  rw [lex_five] at h
  exact h
 generalize (x17.alloc (.cells #[.int .i64 (cmpI x.k y.k),.int .i64 (ordZ x.v.k x.v.n x.v.s y.v.k y.v.n y.v.s),.int .i64 (cmpS x.s y.s),.int .i64 (cmpS x.f y.f),.int .i64 (cmpI x.n y.n)] 3)) = D at hHeld C48 ⊢
 refine rd 48 fun K hK=>?_
 go_simp
 refine (C48).mono ?_
 rintro e x48 ⟨rfl,hx48⟩
 replace hx48:=hx48.symm
 subst hx48
 go_wp2_with fail
 refine hK.out _ _ hHeld (fun _=>?_)
 clear hK K
 try simp only [Act.put,s_put,s_0,s_1]
 refine tk 49 ?_
 refine dn ?_
 go_wp2
 go_ret
 exact ⟨rfl,hT.trans (hHeld.mono hT.size)⟩
end Go.Proofs.YtkfpgkohkhhlhaaGreatDoor
