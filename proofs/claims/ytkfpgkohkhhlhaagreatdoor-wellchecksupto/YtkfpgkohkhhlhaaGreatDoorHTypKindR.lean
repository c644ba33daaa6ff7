/- Texts that the last one stands on. -/
import Derived.Test.YtkfpgkohkhhlhaaGreatDoorHTypClone
set_option maxRecDepth 100000
set_option maxHeartbeats 4000000
namespace Go.Proofs.YtkfpgkohkhhlhaaGreatDoor
open Go.RowKit
theorem kind_A (nv:Value) (N T:Addr) (x:X) (K:Nat→Int) (w:World) (hS:Sens w N T) (hk:x.k=3 ∨ x.k=4 ∨ x.k=5 ∨ x.k=6 ∨ x.k=7 ∨ x.k=8) (hn:x.n≤1048576) (HP:∀ d,Below w.heap.size w d→Calls Tryz.prog 205 #[nv,x.slice] d fun r w'=>∃ a cap,r=.returned (.tuple #[.slice a x.n cap,.nilIface])∧IsI w' a x.n K∧Below d.heap.size d w') :
 KindC nv N T x (if allB K 2 x.n=true then 2 else 0) (if allB K 2 x.n=true then 0 else 5) w:=by
 obtain ⟨A,hA,hB,hs,hn0⟩:=one_box x w
 have HN:=hid hn0
 obtain ⟨a0,a1,a2,a3,a4,a5,a6⟩:=hn0.at0
 have h1':(x.k == 1)=false:=by simp;omega
 have h2':(x.k == 2)=false:=by simp;omega
 have HB:=hid hB
 have C:Hid (Calls Tryz.prog 205 _ A _):=HP A hB
 have HS:Hid (Sens A N T):=hS.later hB
 have R:Hid (∀ d:World,Calls Tryz.prog 206 _ d _):=fun d=>ruleA x.k d hk
 have M:Hid (∀ (a:Option Addr) (cap p:Nat) (d:World),IsI d a x.n K→d.cell? ⟨p,0,none⟩=some (.int .i64 2)→Calls Tryz.prog 220 #[.slice a x.n cap,.pointer (some ⟨p,0,none⟩)] d fun e w'=>e=.returned (.bool (allB K 2 x.n))∧w'=d):=fun a cap p d h1 h2=>all1_any a x.n cap p K 2 d h1 hn h2
 clear hB hn0 hk HP hS hn 
 unfold KindC
 generalize allB K 2 x.n=q at M ⊢
 cases q
 · go_enter Tryz.func184,Tryz.ntmps184
   go_wp2_with (first
    | (go_at_call 220;refine (M.out a cap p _ (HI.out.later (bt hB3 ((Below.refl _ w3).alloc (Nat.le_refl _) _))) (cell_new w3 _ _ _ hp)).mono ?_;rintro r w4 ⟨rfl,rfl⟩)
    | (go_at_call 206;refine (R.out _).mono ?_;rintro r w3 ⟨p,rfl,hp,hB3⟩;have gT:=(HS.out.later (bt hB2 hB3)).vT;have gT':=cell_new w3 (.cells #[.int .i64 2,.func (.func 220) #[] #[.pointer (some ⟨p,0,none⟩)]] 267) _ _ gT)
    | (go_at_call 205;refine C.out.mono ?_;rintro r w2 ⟨a,cap,rfl,hI,hB2⟩;have HI:=hid hI;clear hI;obtain ⟨b0,b1,b2,b3,b4,b5,b6⟩:=(HN.out.later hB2).at0))
   go_quiet (fail)
   go_wp2
   exact bodyPost_ret (v:=.tuple #[.int .i64 0,senV T]) (by simp [results,Tryz.results184,go_sem]) rfl ⟨_,rfl,.inr (.inr ⟨rfl,.base T,rfl,rfl⟩),bd (bt HB.out (bt hB2 (bt hB3 (nwB _ _)))) _⟩
 · go_enter Tryz.func184,Tryz.ntmps184
   go_wp2_with (first
    | (go_at_call 220;refine (M.out a cap p _ (HI.out.later (bt hB3 ((Below.refl _ w3).alloc (Nat.le_refl _) _))) (cell_new w3 _ _ _ hp)).mono ?_;rintro r w4 ⟨rfl,rfl⟩)
    | (go_at_call 206;refine (R.out _).mono ?_;rintro r w3 ⟨p,rfl,hp,hB3⟩;have gT:=(HS.out.later (bt hB2 hB3)).vT;have gT':=cell_new w3 (.cells #[.int .i64 2,.func (.func 220) #[] #[.pointer (some ⟨p,0,none⟩)]] 267) _ _ gT)
    | (go_at_call 205;refine C.out.mono ?_;rintro r w2 ⟨a,cap,rfl,hI,hB2⟩;have HI:=hid hI;clear hI;obtain ⟨b0,b1,b2,b3,b4,b5,b6⟩:=(HN.out.later hB2).at0))
   exact bodyPost_ret (v:=.tuple #[.int .i64 2,.nilIface]) (by simp [results,Tryz.results184,go_sem]) rfl ⟨.nilIface,rfl,.inl ⟨rfl,rfl⟩,bt HB.out (bt hB2 (bt hB3 (nwB _ _)))⟩
theorem kind_B (nv:Value) (N T:Addr) (x:X) (K:Nat→Int) (w:World) (hS:Sens w N T) (hk:x.k=9 ∨ x.k=10) (h2:x.n=2) (_:x.n≤1048576) (HP:∀ d,Below w.heap.size w d→Calls Tryz.prog 205 #[nv,x.slice] d fun r w'=>∃ a cap,r=.returned (.tuple #[.slice a x.n cap,.nilIface])∧IsI w' a x.n K∧Below d.heap.size d w') :
 KindC nv N T x (if (decide (K 0=K 1) || (decide (K 0=0) || decide (K 1=0)))=true then 1 else 0) (if (decide (K 0=K 1) || (decide (K 0=0) || decide (K 1=0)))=true then 0 else 5) w:=by
 obtain ⟨A,hA,hB,hs,hn0⟩:=one_box x w
 have HN:=hid hn0
 obtain ⟨a0,a1,a2,a3,a4,a5,a6⟩:=hn0.at0
 have h1':(x.k == 1)=false:=by simp;omega
 have h2':(x.k == 2)=false:=by simp;omega
 have HB:=hid hB
 have C:Hid (Calls Tryz.prog 205 _ A _):=HP A hB
 have HS:Hid (Sens A N T):=hS.later hB
 have R:Hid (∀ d:World,Calls Tryz.prog 206 _ d _):=fun d=>ruleB x.k d hk
 have M:Hid (∀ (a:Option Addr) (cap:Nat) (d:World),IsI d a x.n K→Calls Tryz.prog 214 #[.slice a x.n cap] d (RV (.bool ((decide (K 0=K 1) || (decide (K 0=0) || decide (K 1=0))))) d)):=fun a cap d h1=>by rw [h2] at h1 ⊢;exact alike_any a cap K d h1
 clear hB hn0 hk HP hS h2
 unfold KindC
 generalize (decide (K 0=K 1) || (decide (K 0=0) || decide (K 1=0)))=q at M ⊢
 cases q
 · go_enter Tryz.func184,Tryz.ntmps184
   go_wp2_with (first
    | (go_at_call 214;refine (M.out a cap _ (HI.out.later (bt hB3 ((Below.refl _ w3).alloc (Nat.le_refl _) _)))).mono ?_;rintro r w4 ⟨rfl,hB4⟩;have gR:=cell_later (show (w3.alloc (.cells #[.int .i64 1,.func (.func 214) #[] #[]] 267)).cell? ⟨w3.heap.size,0,none⟩=some (.int .i64 1) by rw [World.cell?_alloc_at _ _ _ _ rfl];rfl) hB4;have gT4:=cell_later gT' hB4)
    | (go_at_call 206;refine (R.out _).mono ?_;rintro r w3 ⟨rfl,hB3⟩;have gT:=(HS.out.later (bt hB2 hB3)).vT;have gT':=cell_new w3 (.cells #[.int .i64 1,.func (.func 214) #[] #[]] 267) _ _ gT)
    | (go_at_call 205;refine C.out.mono ?_;rintro r w2 ⟨a,cap,rfl,hI,hB2⟩;have HI:=hid hI;clear hI;obtain ⟨b0,b1,b2,b3,b4,b5,b6⟩:=(HN.out.later hB2).at0))
   go_quiet (fail)
   go_wp2
   exact bodyPost_ret (v:=.tuple #[.int .i64 0,senV T]) (by simp [results,Tryz.results184,go_sem]) rfl ⟨_,rfl,.inr (.inr ⟨rfl,.base T,rfl,rfl⟩),bd (bt HB.out (bt hB2 (bt hB3 ((nwB _ _).trans (hB4.mono (by simp)))))) _⟩
 · go_enter Tryz.func184,Tryz.ntmps184
   go_wp2_with (first
    | (go_at_call 214;refine (M.out a cap _ (HI.out.later (bt hB3 ((Below.refl _ w3).alloc (Nat.le_refl _) _)))).mono ?_;rintro r w4 ⟨rfl,hB4⟩;have gR:=cell_later (show (w3.alloc (.cells #[.int .i64 1,.func (.func 214) #[] #[]] 267)).cell? ⟨w3.heap.size,0,none⟩=some (.int .i64 1) by rw [World.cell?_alloc_at _ _ _ _ rfl];rfl) hB4;have gT4:=cell_later gT' hB4)
    | (go_at_call 206;refine (R.out _).mono ?_;rintro r w3 ⟨rfl,hB3⟩;have gT:=(HS.out.later (bt hB2 hB3)).vT;have gT':=cell_new w3 (.cells #[.int .i64 1,.func (.func 214) #[] #[]] 267) _ _ gT)
    | (go_at_call 205;refine C.out.mono ?_;rintro r w2 ⟨a,cap,rfl,hI,hB2⟩;have HI:=hid hI;clear hI;obtain ⟨b0,b1,b2,b3,b4,b5,b6⟩:=(HN.out.later hB2).at0))
   exact bodyPost_ret (v:=.tuple #[.int .i64 1,.nilIface]) (by simp [results,Tryz.results184,go_sem]) rfl ⟨.nilIface,rfl,.inl ⟨rfl,rfl⟩,bt HB.out (bt hB2 (bt hB3 ((nwB _ _).trans (hB4.mono (by simp)))))⟩
theorem kind_C (nv:Value) (N T:Addr) (x:X) (K:Nat→Int) (w:World) (hS:Sens w N T) (hk:x.k=11 ∨ x.k=12 ∨ x.k=13 ∨ x.k=14) (hn:x.n≤1048576) (HP:∀ d,Below w.heap.size w d→Calls Tryz.prog 205 #[nv,x.slice] d fun r w'=>∃ a cap,r=.returned (.tuple #[.slice a x.n cap,.nilIface])∧IsI w' a x.n K∧Below d.heap.size d w') :
 KindC nv N T x (if (allB K 2 x.n || allB K 3 x.n)=true then 1 else 0) (if (allB K 2 x.n || allB K 3 x.n)=true then 0 else 5) w:=by
 obtain ⟨A,hA,hB,hs,hn0⟩:=one_box x w
 have HN:=hid hn0
 obtain ⟨a0,a1,a2,a3,a4,a5,a6⟩:=hn0.at0
 have h1':(x.k == 1)=false:=by simp;omega
 have h2':(x.k == 2)=false:=by simp;omega
 have HB:=hid hB
 have C:Hid (Calls Tryz.prog 205 _ A _):=HP A hB
 have HS:Hid (Sens A N T):=hS.later hB
 have R:Hid (∀ d:World,Calls Tryz.prog 206 _ d _):=fun d=>ruleC x.k d hk
 have M:Hid (∀ (a:Option Addr) (cap:Nat) (d:World),IsI d a x.n K→Calls Tryz.prog 215 #[.slice a x.n cap] d (RV (.bool ((allB K 2 x.n || allB K 3 x.n))) d)):=fun a cap d h1=>by exact ordered_any a x.n cap K d h1 hn
 clear hB hn0 hk HP hS hn 
 unfold KindC
 generalize (allB K 2 x.n || allB K 3 x.n)=q at M ⊢
 cases q
 · go_enter Tryz.func184,Tryz.ntmps184
   go_wp2_with (first
    | (go_at_call 215;refine (M.out a cap _ (HI.out.later (bt hB3 ((Below.refl _ w3).alloc (Nat.le_refl _) _)))).mono ?_;rintro r w4 ⟨rfl,hB4⟩;have gR:=cell_later (show (w3.alloc (.cells #[.int .i64 1,.func (.func 215) #[] #[]] 267)).cell? ⟨w3.heap.size,0,none⟩=some (.int .i64 1) by rw [World.cell?_alloc_at _ _ _ _ rfl];rfl) hB4;have gT4:=cell_later gT' hB4)
    | (go_at_call 206;refine (R.out _).mono ?_;rintro r w3 ⟨rfl,hB3⟩;have gT:=(HS.out.later (bt hB2 hB3)).vT;have gT':=cell_new w3 (.cells #[.int .i64 1,.func (.func 215) #[] #[]] 267) _ _ gT)
    | (go_at_call 205;refine C.out.mono ?_;rintro r w2 ⟨a,cap,rfl,hI,hB2⟩;have HI:=hid hI;clear hI;obtain ⟨b0,b1,b2,b3,b4,b5,b6⟩:=(HN.out.later hB2).at0))
   go_quiet (fail)
   go_wp2
   exact bodyPost_ret (v:=.tuple #[.int .i64 0,senV T]) (by simp [results,Tryz.results184,go_sem]) rfl ⟨_,rfl,.inr (.inr ⟨rfl,.base T,rfl,rfl⟩),bd (bt HB.out (bt hB2 (bt hB3 ((nwB _ _).trans (hB4.mono (by simp)))))) _⟩
 · go_enter Tryz.func184,Tryz.ntmps184
   go_wp2_with (first
    | (go_at_call 215;refine (M.out a cap _ (HI.out.later (bt hB3 ((Below.refl _ w3).alloc (Nat.le_refl _) _)))).mono ?_;rintro r w4 ⟨rfl,hB4⟩;have gR:=cell_later (show (w3.alloc (.cells #[.int .i64 1,.func (.func 215) #[] #[]] 267)).cell? ⟨w3.heap.size,0,none⟩=some (.int .i64 1) by rw [World.cell?_alloc_at _ _ _ _ rfl];rfl) hB4;have gT4:=cell_later gT' hB4)
    | (go_at_call 206;refine (R.out _).mono ?_;rintro r w3 ⟨rfl,hB3⟩;have gT:=(HS.out.later (bt hB2 hB3)).vT;have gT':=cell_new w3 (.cells #[.int .i64 1,.func (.func 215) #[] #[]] 267) _ _ gT)
    | (go_at_call 205;refine C.out.mono ?_;rintro r w2 ⟨a,cap,rfl,hI,hB2⟩;have HI:=hid hI;clear hI;obtain ⟨b0,b1,b2,b3,b4,b5,b6⟩:=(HN.out.later hB2).at0))
   exact bodyPost_ret (v:=.tuple #[.int .i64 1,.nilIface]) (by simp [results,Tryz.results184,go_sem]) rfl ⟨.nilIface,rfl,.inl ⟨rfl,rfl⟩,bt HB.out (bt hB2 (bt hB3 ((nwB _ _).trans (hB4.mono (by simp)))))⟩
theorem kind_D (nv:Value) (N T:Addr) (x:X) (K:Nat→Int) (w:World) (hS:Sens w N T) (hk:x.k=15 ∨ x.k=16 ∨ x.k=17) (hn:x.n≤1048576) (HP:∀ d,Below w.heap.size w d→Calls Tryz.prog 205 #[nv,x.slice] d fun r w'=>∃ a cap,r=.returned (.tuple #[.slice a x.n cap,.nilIface])∧IsI w' a x.n K∧Below d.heap.size d w') :
 KindC nv N T x (if allB K 1 x.n=true then 1 else 0) (if allB K 1 x.n=true then 0 else 5) w:=by
 obtain ⟨A,hA,hB,hs,hn0⟩:=one_box x w
 have HN:=hid hn0
 obtain ⟨a0,a1,a2,a3,a4,a5,a6⟩:=hn0.at0
 have h1':(x.k == 1)=false:=by simp;omega
 have h2':(x.k == 2)=false:=by simp;omega
 have HB:=hid hB
 have C:Hid (Calls Tryz.prog 205 _ A _):=HP A hB
 have HS:Hid (Sens A N T):=hS.later hB
 have R:Hid (∀ d:World,Calls Tryz.prog 206 _ d _):=fun d=>ruleD x.k d hk
 have M:Hid (∀ (a:Option Addr) (cap p:Nat) (d:World),IsI d a x.n K→d.cell? ⟨p,0,none⟩=some (.int .i64 1)→Calls Tryz.prog 220 #[.slice a x.n cap,.pointer (some ⟨p,0,none⟩)] d fun e w'=>e=.returned (.bool (allB K 1 x.n))∧w'=d):=fun a cap p d h1 h2=>all1_any a x.n cap p K 1 d h1 hn h2
 clear hB hn0 hk HP hS hn 
 unfold KindC
 generalize allB K 1 x.n=q at M ⊢
 cases q
 · go_enter Tryz.func184,Tryz.ntmps184
   go_wp2_with (first
    | (go_at_call 220;refine (M.out a cap p _ (HI.out.later (bt hB3 ((Below.refl _ w3).alloc (Nat.le_refl _) _))) (cell_new w3 _ _ _ hp)).mono ?_;rintro r w4 ⟨rfl,rfl⟩)
    | (go_at_call 206;refine (R.out _).mono ?_;rintro r w3 ⟨p,rfl,hp,hB3⟩;have gT:=(HS.out.later (bt hB2 hB3)).vT;have gT':=cell_new w3 (.cells #[.int .i64 1,.func (.func 220) #[] #[.pointer (some ⟨p,0,none⟩)]] 267) _ _ gT)
    | (go_at_call 205;refine C.out.mono ?_;rintro r w2 ⟨a,cap,rfl,hI,hB2⟩;have HI:=hid hI;clear hI;obtain ⟨b0,b1,b2,b3,b4,b5,b6⟩:=(HN.out.later hB2).at0))
   go_quiet (fail)
   go_wp2
   exact bodyPost_ret (v:=.tuple #[.int .i64 0,senV T]) (by simp [results,Tryz.results184,go_sem]) rfl ⟨_,rfl,.inr (.inr ⟨rfl,.base T,rfl,rfl⟩),bd (bt HB.out (bt hB2 (bt hB3 (nwB _ _)))) _⟩
 · go_enter Tryz.func184,Tryz.ntmps184
   go_wp2_with (first
    | (go_at_call 220;refine (M.out a cap p _ (HI.out.later (bt hB3 ((Below.refl _ w3).alloc (Nat.le_refl _) _))) (cell_new w3 _ _ _ hp)).mono ?_;rintro r w4 ⟨rfl,rfl⟩)
    | (go_at_call 206;refine (R.out _).mono ?_;rintro r w3 ⟨p,rfl,hp,hB3⟩;have gT:=(HS.out.later (bt hB2 hB3)).vT;have gT':=cell_new w3 (.cells #[.int .i64 1,.func (.func 220) #[] #[.pointer (some ⟨p,0,none⟩)]] 267) _ _ gT)
    | (go_at_call 205;refine C.out.mono ?_;rintro r w2 ⟨a,cap,rfl,hI,hB2⟩;have HI:=hid hI;clear hI;obtain ⟨b0,b1,b2,b3,b4,b5,b6⟩:=(HN.out.later hB2).at0))
   exact bodyPost_ret (v:=.tuple #[.int .i64 1,.nilIface]) (by simp [results,Tryz.results184,go_sem]) rfl ⟨.nilIface,rfl,.inl ⟨rfl,rfl⟩,bt HB.out (bt hB2 (bt hB3 (nwB _ _)))⟩
theorem X.n_lt (x:X):x.n < x.size:=by
 have key:∀ n,n≤sumN (fun i=>(x.c i).size) n:=by
  intro n
  induction n with
  | zero=>exact Nat.le_refl _
  | succ n ih =>
    have:=(x.c n).size_pos
    simp only [sumN]
    omega
 have:=key x.n
 rw [x.size_eq]
 omega
theorem name_max {s:ByteArray} (h:nameB s=true):s.size≤maxLen:=by
 unfold nameB fitsB at h
 simp at h
 unfold maxLen
 omega
theorem kindT_any (nv:Value) (N T:Addr) (L:ByteArray→ByteArray→Option Int):∀ (x:X) (w:World),IsX w x→TreeR x→x.size≤1048576→Sens w N T→(∀ d,Below w.heap.size w d→FieldC nv N L d)→KindC nv N T x (kindE L x).1 (kindE L x).2 w:=by
 refine X.ind fun x ih w hX hR hsz hS HF=>?_
 obtain ⟨hr,hp⟩:=(treeR_eq x).1 hR
 have hn:x.n≤1048576:=by have:=x.n_lt;omega
 have HK:∀ i,i < x.n→∀ d,Below w.heap.size w d→KindC nv N T (x.c i) (kindE L (x.c i)).1 (kindE L (x.c i)).2 d:=fun i hi d hd=>by
  obtain ⟨_,_,_,_,hx⟩:=hX.part hi
  exact ih i hi d (hx.later hd) (hp i hi) (by have:=x.size_part i hi;omega) (hS.later hd) fun d' h'=>HF d' (bt hd h')
 have rest:3≤x.k→x.k≤17→(x.k=9 ∨ x.k=10→x.n=2)→KindC nv N T x (kindE L x).1 (kindE L x).2 w:=by
  intro h3 h17 h2
  rcases errs_or (fun i=>(kindE L (x.c i)).2) x.n with ⟨he,h0⟩ | ⟨i,hi,hne,he,h0⟩
  · have HP:=fun d (hd:Below w.heap.size w d)=>parts_ok nv N T x (fun i=>(kindE L (x.c i)).1) (fun i=>(kindE L (x.c i)).2) d (hX.later hd) hn (fun i hi d' h'=>HK i hi d' (bt hd h')) h0
    rw [kindE_parts h3 he]
    have fin:∀ (q:Bool) (o:Int),KindC nv N T x (if q=true then o else 0) (if q=true then 0 else 5) w→KindC nv N T x (if q=true then (o,(0:Int)) else (0,5)).1 (if q=true then (o,(0:Int)) else (0,5)).2 w:=fun q o h=>by cases q <;> exact h
    refine fin _ _ ?_
    by_cases hA:x.k≤8
    · rw [show outK x.k=2 by simp [outK];omega,show fineK x.k x.n (fun i=>(kindE L (x.c i)).1)=allB (fun i=>(kindE L (x.c i)).1) 2 x.n by rw [fineK,if_pos ⟨h3,hA⟩]]
      exact kind_A nv N T x _ w hS (by omega) hn HP
    · have ho:outK x.k=1:=by rw [outK,if_neg (by omega)]
      rw [ho]
      by_cases hB:x.k≤10
      · rw [show fineK x.k x.n (fun i=>(kindE L (x.c i)).1)=(decide ((kindE L (x.c 0)).1=(kindE L (x.c 1)).1) || (decide ((kindE L (x.c 0)).1=0) || decide ((kindE L (x.c 1)).1=0))) by rw [fineK,if_neg (by omega),if_pos (by omega)]]
        exact kind_B nv N T x _ w hS (by omega) (h2 (by omega)) hn HP
      · by_cases hC:x.k≤14
        · rw [show fineK x.k x.n (fun i=>(kindE L (x.c i)).1)=(allB (fun i=>(kindE L (x.c i)).1) 2 x.n || allB (fun i=>(kindE L (x.c i)).1) 3 x.n) by rw [fineK,if_neg (by omega),if_neg (by omega),if_pos (by omega)]]
          exact kind_C nv N T x _ w hS (by omega) hn HP
        · rw [show fineK x.k x.n (fun i=>(kindE L (x.c i)).1)=allB (fun i=>(kindE L (x.c i)).1) 1 x.n by rw [fineK,if_neg (by omega),if_neg (by omega),if_neg (by omega)]]
          exact kind_D nv N T x _ w hS (by omega) hn HP
  · rw [kindE_err h3 (by show ¬ lexN _ _=0;rw [he];exact hne)]
    show KindC nv N T x 0 (lexN _ _) w
    rw [he]
    exact kind_err nv N T x _ w h3 hne fun d hd=>parts_err nv N T x (fun i=>(kindE L (x.c i)).1) (fun i=>(kindE L (x.c i)).2) i d (hX.later hd) hn (fun i hi d' h'=>HK i hi d' (bt hd h')) hi hne h0
 rcases hr.2.2 with ⟨hk,hn0,_⟩ | ⟨hk,hn0,hnm,_⟩ | ⟨hk,hn0⟩ | ⟨h4,h14,hn0⟩ | ⟨hk,_,_⟩
 · rw [kindE_const hk hn0]
   exact kind_const nv N T x w hk
 · rw [kindE_field hk hn0]
   refine (kind_field nv N T L x w hk (name_max hnm) HF).mono ?_
   rintro e w' ⟨rfl,hB⟩
   cases L x.s x.f with
   | none=>exact ⟨_,rfl,.inr (.inl ⟨rfl,.base N,rfl,rfl⟩),hB⟩
   | some q=>exact ⟨_,rfl,.inl ⟨rfl,rfl⟩,hB⟩
 · exact rest (by omega) (by omega) (by omega)
 · exact rest (by omega) (by omega) (fun _=>hn0)
 · exact rest (by omega) (by omega) (by omega)
open Go.Maps Go.WideMaps
def elemV (v:Value):Option (DataW Value × List MemPlace):=some (.held v,[])
abbrev schZ:Value:=schV ⟨#[]⟩ (.slice none 0 0)
structure FirstS (V:Nat→ByteArray) (U:Nat→Value) (n i:Nat) (D:DataW Value):Prop where
 hit:∀ j,i≤j→j < n→(∀ j',i≤j'→j' < j→V j' ≠ V j)→Maps.has D (keyS (V j))=true∧D.atKey (keyS (V j)) (.held schZ)=.held (U j)
 miss:∀ s,(∀ j,i≤j→j < n→V j ≠ s)→Maps.has D (keyS s)=false∧D.atKey (keyS s) (.held schZ)=.held schZ
theorem firstS_none (V:Nat→ByteArray) (U:Nat→Value) (n:Nat):FirstS V U n n (.map []):=⟨fun j h1 h2=>by omega,fun _ _=>⟨rfl,rfl⟩⟩
theorem FirstS.more {V:Nat→ByteArray} {U:Nat→Value} {n i:Nat} {D:DataW Value} (h:FirstS V U n (i+1) D) (hm:IsMap D) (hi:i < n):FirstS V U n i (D.put (keyS (V i)) (.held (U i))):=by
 refine ⟨fun j h1 h2 h3=>?_,fun s hs=>?_⟩
 · by_cases e:j=i
   · subst e
     exact ⟨has_put_same hm (by simp [WideAt.IsKeyLit]) _,atKey_put_same hm (by simp [WideAt.IsKeyLit]) _ _⟩
   · have hne:V i ≠ V j:=h3 i (Nat.le_refl _) (by omega)
     obtain ⟨q1,q2⟩:=h.hit j (by omega) h2 fun j' h4 h5=>h3 j' (by omega) h5
     rw [has_put_other (keyS_ne fun q=>hne q.symm),atKey_put_other (keyS_ne fun q=>hne q.symm)]
     exact ⟨q1,q2⟩
 · have hne:V i ≠ s:=hs i (Nat.le_refl _) hi
   rw [has_put_other (keyS_ne fun q=>hne q.symm),atKey_put_other (keyS_ne fun q=>hne q.symm)]
   exact h.miss s fun j h1 h2=>hs j (by omega) h2
def atV (V:Nat→ByteArray) (U:Nat→Value) (n:Nat) (s:ByteArray):Value:=match idx V s n with | some i=>U i | none=>schZ
theorem FirstS.at {V:Nat→ByteArray} {U:Nat→Value} {n:Nat} {D:DataW Value} (h:FirstS V U n 0 D) (s:ByteArray):Maps.has D (keyS s)=(idx V s n).isSome∧D.atKey (keyS s) (.held schZ)=.held (atV V U n s):=by
 unfold atV
 cases e:idx V s n with
 | some i =>
   obtain ⟨h1,rfl,h3⟩:=idx_some V s n i e
   obtain ⟨q1,q2⟩:=h.hit i (Nat.zero_le _) h1 fun j' _ h5=>h3 j' h5
   exact ⟨q1,q2⟩
 | none=>exact h.miss s fun j _ hj=>idx_none V s n e j hj
structure NamesIn (w:World) (p m n:Nat) (V:Nat→ByteArray) (S:Nat→Sch):Prop where
 box:w.cell? ⟨p,0,none⟩=some (.map (some m))
 map:∃ D,w.ownsMap Tryz.prog 9 elemV m n D∧FirstS V (fun j=>schV (S j).nm (S j).v) n 0 D
 flds:∀ j,j < n→Flds w (S j).a (S j).l (S j).fn (S j).fk∧(S j).l≤16
theorem NamesIn.later {w w':World} {p m n:Nat} {V:Nat→ByteArray} {S:Nat→Sch} (h:NamesIn w p m n V S) (hB:Below w.heap.size w w'):NamesIn w' p m n V S:=by
 obtain ⟨D,ho,hf⟩:=h.map
 refine ⟨cell_later h.box hB,⟨D,?_,hf⟩,fun j hj=>⟨(h.flds j hj).1.later hB,(h.flds j hj).2⟩⟩
 have hlt:=ho.lt
 obtain ⟨es,clock,h1,h2⟩:=ho
 exact ⟨es,clock,(hB.block m hlt).trans h1,h2⟩
theorem zeroS (w:World):(zeroValue 115).run Tryz.prog w=.ok schZ w:=by kernel_rfl
theorem NamesIn.look {w:World} {p m n:Nat} {V:Nat→ByteArray} {S:Nat→Sch} (h:NamesIn w p m n V S) (s:ByteArray) (hs:s.size≤maxLen) :
 (Instr.lookup 210 (.map (some m)) (.string s) false).run Tryz.prog w=.ok (atV V (fun j=>schV (S j).nm (S j).v) n s) w:=by
 obtain ⟨D,ho,hf⟩:=h.map
 obtain ⟨v,ps,hr,hv⟩:=ho.lookup str_law Tryz.underlying210 (zeroS w) (show elemV schZ=some (.held schZ,[]) from rfl) (keyOf_string_mk Tryz.underlying9 hs)
 rw [(hf.at s).2] at hv
 simp only [elemV,Option.some.injEq,Prod.mk.injEq,DataW.held.injEq] at hv
 rw [hr,hv.1]
theorem NamesIn.look_ok {w:World} {p m n:Nat} {V:Nat→ByteArray} {S:Nat→Sch} (h:NamesIn w p m n V S) (s:ByteArray) (hs:s.size≤maxLen) :
 (Instr.lookup 210 (.map (some m)) (.string s) true).run Tryz.prog w=.ok (.tuple #[atV V (fun j=>schV (S j).nm (S j).v) n s,.bool (idx V s n).isSome]) w:=by
 obtain ⟨D,ho,hf⟩:=h.map
 obtain ⟨v,ps,hr,hv⟩:=ho.look_ok str_law Tryz.underlying210 (zeroS w) (show elemV schZ=some (.held schZ,[]) from rfl) (keyOf_string_mk Tryz.underlying9 hs)
 rw [(hf.at s).2] at hv
 simp only [elemV,Option.some.injEq,Prod.mk.injEq,DataW.held.injEq] at hv
 rw [hr,hv.1,(hf.at s).1]
open Go.Shelf
attribute [local go_sem] Oper.semAt_some
def Ck (W W':World):Prop:=∀ p v,W.cell? p=some v→W'.cell? p=some v
theorem Ck.trans {a b c:World} (h:Ck a b) (g:Ck b c):Ck a c:=fun p v e=>g p v (h p v e)
theorem Ag.ck {B:Nat} {W A:World} (h:Ag B W A):Ck W A:=fun _ _ e=>h.cell_some e
theorem Row2.ck {W W':World} (h:Ck W W') {a:Option Addr} {n:Nat} {Nm:Nat→ByteArray} {V:Nat→Value} (hr:Row2 W a n Nm V):Row2 W' a n Nm V:=fun h0=>by
 obtain ⟨b,o,e,hc⟩:=hr h0
 exact ⟨b,o,e,fun j hj=>⟨⟨h _ _ (hc j hj).1.1,h _ _ (hc j hj).1.2⟩,(hc j hj).2⟩⟩
theorem Schs.ck {W W':World} (h:Ck W W') {a:Option Addr} {n:Nat} {Q:Nat→Sch} (hs:Schs W a n Q):Schs W' a n Q:=⟨hs.1.ck h,fun j hj=>⟨(hs.2 j hj).1.ck h,(hs.2 j hj).2⟩⟩
theorem Txs.ck {W W':World} (h:Ck W W') {a:Option Addr} {n:Nat} {S:Nat→ByteArray} (hs:Txs W a n S):Txs W' a n S:=fun h0=>by
 obtain ⟨b,o,e,hc⟩:=hs h0
 exact ⟨b,o,e,fun j hj=>h _ _ (hc j hj)⟩
theorem Row2.boxset {w:World} {a:Option Addr} {n:Nat} {Nm:Nat→ByteArray} {V:Nat→Value} {B:Nat} {t:TypeId} {v:Value} (h:Row2 w a n Nm V) (hb:Boxed w B t v) (hv:∀ s,v ≠ .string s) (u:Value):Row2 (w.setCell ⟨B,0,none⟩ u) a n Nm V:=fun h0=>by
 obtain ⟨b,o,e,hc⟩:=h h0
 have hne:(⟨B,0,none⟩:Addr).block ≠ b:=by
  rintro rfl
  have:=(hc 0 h0).1.1
  simp only [World.cell?,show w.heap[B]? = _ from hb] at this
  cases ho:o+0 * 2 with
  | zero=>rw [ho] at this;simp at this;exact hv _ this
  | succ k=>rw [ho] at this;simp at this
 refine ⟨b,o,e,fun j hj=>⟨⟨?_,?_⟩,(hc j hj).2⟩⟩
 · rw [World.cell?_setCell_far _ _ _ _ hne];exact (hc j hj).1.1
 · rw [World.cell?_setCell_far _ _ _ _ hne];exact (hc j hj).1.2
theorem Schs.boxset {w:World} {a:Option Addr} {n:Nat} {Q:Nat→Sch} {B:Nat} {t:TypeId} {v:Value} (h:Schs w a n Q) (hb:Boxed w B t v) (hv:∀ s,v ≠ .string s) (u:Value):Schs (w.setCell ⟨B,0,none⟩ u) a n Q:=⟨h.1.boxset hb hv u,fun j hj=>⟨(h.2 j hj).1.boxset hb hv u,(h.2 j hj).2⟩⟩
theorem ownV_ag {B:Nat} {W A:World} (h:Ag B W A) {b n:Nat} {D:DataW Value} (hb:b < B) (ho:W.ownsMap Tryz.prog 9 elemV b n D):A.ownsMap Tryz.prog 9 elemV b n D:=by
 obtain ⟨es,clock,h1,h2⟩:=ho
 exact ⟨es,clock,(h.low b hb).trans h1,h2⟩
theorem ownV_below {B:Nat} {W A:World} (h:Below B W A) {b n:Nat} {D:DataW Value} (hb:b < B) (ho:W.ownsMap Tryz.prog 9 elemV b n D):A.ownsMap Tryz.prog 9 elemV b n D:=by
 obtain ⟨es,clock,h1,h2⟩:=ho
 exact ⟨es,clock,(h.block b hb).trans h1,h2⟩
theorem ownV_set {W:World} {b n B:Nat} {t:TypeId} {v u:Value} {D:DataW Value} (hb:Boxed W B t v) (ho:W.ownsMap Tryz.prog 9 elemV b n D):(W.setCell ⟨B,0,none⟩ u).ownsMap Tryz.prog 9 elemV b n D:=by
 obtain ⟨es,clock,h1,h2⟩:=ho
 refine ⟨es,clock,?_,h2⟩
 rw [Below.heap_setCell _ _ _ _ (fun e=>by
  have e:b=B:=e
  subst e
  rw [show W.heap[b]? = _ from hb] at h1
  cases h1)]
 exact h1
theorem new_boxes (w:World) (l v:Value):∃ A,(((w.alloc (.cells #[l] 22)).alloc (.cells #[v] 37)).alloc (.cells #[.pointer none] 57)).alloc (.cells #[.int .i64 0] 32)=A∧A.heap.size=w.heap.size+4∧Below w.heap.size w A ∧
 Boxed A w.heap.size 22 l∧Boxed A (w.heap.size+1) 37 v∧Boxed A (w.heap.size+1+1) 57 (.pointer none)∧Boxed A (w.heap.size+1+1+1) 32 (.int .i64 0):=by
 refine ⟨_,rfl,by simp,?_,?_,?_,?_,?_⟩
 · exact (((nwB w _).alloc (by simp) _).alloc (by simp;omega) _).alloc (by simp;omega) _
 · exact (((Boxed.new w _ l).alloc _).alloc _).alloc _
 · have:=((Boxed.new (w.alloc (.cells #[l] 22)) 37 v).alloc (.cells #[.pointer none] 57)).alloc (.cells #[.int .i64 0] 32)
   rwa [World.size_alloc] at this
 · have:=(Boxed.new ((w.alloc (.cells #[l] 22)).alloc (.cells #[v] 37)) 57 (.pointer none)).alloc (.cells #[.int .i64 0] 32)
   rwa [World.size_alloc,World.size_alloc] at this
 · have:=Boxed.new (((w.alloc (.cells #[l] 22)).alloc (.cells #[v] 37)).alloc (.cells #[.pointer none] 57)) 32 (.int .i64 0)
   rwa [World.size_alloc,World.size_alloc,World.size_alloc] at this
theorem book_small {ns:Nat} {Q:Nat→Sch} (h:bookZ ns Q=0):ns≤16∧∀ j,j < ns→(Q j).l≤16:=by
 unfold bookZ at h
 split at h
 · cases h
 · split at h
   · rename_i h1 h2
     exact ⟨by omega,fun j hj=>(chkZ_ok (chks_ok Q ns h2 j hj)).1⟩
   · contradiction
def ixT (T:Nat→ByteArray) (ns:Nat) (Q:Nat→Sch) (j:Nat):Nat:=(idx (fun i=>(Q i).nm) (T j) ns).getD 0
structure NewJ (w:World) (s0 sz:Nat) (a1:Option Addr) (ns cap1:Nat) (Q1:Nat→Sch) (av:Option Addr) (nv cv:Nat) (V T:Nat→ByteArray) (k:Nat) (W:World):Prop where
 map:∃ D,W.ownsMap Tryz.prog 9 elemV sz (nv - k) D∧FirstS V (fun j=>schV (Q1 (ixT T ns Q1 j)).nm (Q1 (ixT T ns Q1 j)).v) nv k D
 b0:Boxed W s0 22 (.slice a1 ns cap1)
 b1:Boxed W (s0+1) 37 (.slice av nv cv)
 b2:Boxed W (s0+1+1) 57 (.pointer none)
 b3:Boxed W (s0+1+1+1) 32 (.int .i64 0)
 b4:Boxed W (sz+1) 212 (.map (some sz))
 b5:Boxed W (sz+1+1) 57 (.pointer (some ⟨sz+1,0,none⟩))
 sch:Schs W a1 ns Q1
 txs:Txs W av nv V
 has:∀ j,k≤j→j < nv→∃ i,idx (fun i=>(Q1 i).nm) (T j) ns=some i
 low:Below w.heap.size w W
section
variable {w:World} {s0 sz:Nat} {a1:Option Addr} {ns cap1:Nat} {Q1:Nat→Sch} {av:Option Addr} {nv cv:Nat} {V T:Nat→ByteArray} {k:Nat} {W W':World}
theorem NewJ.ck (h:NewJ w s0 sz a1 ns cap1 Q1 av nv cv V T k W) (hb:∀ b t v,Boxed W b t v→Boxed W' b t v) (hc:Ck W W') (hm:∀ n D,W.ownsMap Tryz.prog 9 elemV sz n D→W'.ownsMap Tryz.prog 9 elemV sz n D) (hl:Below w.heap.size w W'):NewJ w s0 sz a1 ns cap1 Q1 av nv cv V T k W':=by
 obtain ⟨D,h1,h2⟩:=h.map
 exact ⟨⟨D,hm _ _ h1,h2⟩,hb _ _ _ h.b0,hb _ _ _ h.b1,hb _ _ _ h.b2,hb _ _ _ h.b3,hb _ _ _ h.b4,hb _ _ _ h.b5,h.sch.ck hc,h.txs.ck hc,h.has,hl⟩
theorem NewJ.ag {B:Nat} (hag:Ag B W W') (h:NewJ w s0 sz a1 ns cap1 Q1 av nv cv V T k W) (h1:sz < B) (h2:w.heap.size≤B):NewJ w s0 sz a1 ns cap1 Q1 av nv cv V T k W' :=
 h.ck (fun _ _ _=>hag.boxed) hag.ck (fun _ _=>ownV_ag hag h1) (hag.below h2 h.low)
theorem NewJ.later (h:NewJ w s0 sz a1 ns cap1 Q1 av nv cv V T k W) (hB:Below W.heap.size W W'):NewJ w s0 sz a1 ns cap1 Q1 av nv cv V T k W':=by
 obtain ⟨D,h1,_⟩:=h.map
 exact h.ck (fun _ _ _ hb=>Boxed.kept_of hb hB hb.lt) (fun _ _ e=>cell_later e hB) (fun _ _=>ownV_below hB h1.lt) (h.low.trans (hB.mono h.low.size))
theorem map_keeps {D:DataW Value} {n:Nat} (h:W.ownsMap Tryz.prog 9 elemV sz n D) (hg:W.grownBy W' (some sz)):∀ (b:Nat) (o:Obj),o.isCells=true→W.heap[b]? = some o→W'.heap[b]? = some o:=fun b o ho e=>by
 refine (hg.block b (Array.getElem?_eq_some_iff.1 e).1 fun q=>?_).trans e
 injection q with q
 subst q
 obtain ⟨es,clock,e1,_⟩:=h
 rw [e1] at e
 cases e
 cases ho
theorem ck_of (hk:∀ (b:Nat) (o:Obj),o.isCells=true→W.heap[b]? = some o→W'.heap[b]? = some o):Ck W W':=fun p v e=>by
 obtain ⟨o,ho,hi⟩:=cells_of_cell e
 rw [World.cell?_of_block (w:=W) (w':=W') ((hk _ _ hi ho).trans ho.symm)]
 exact e
theorem NewJ.put (h:NewJ w s0 sz a1 ns cap1 Q1 av nv cv V T (k+1) W) (hk:k < nv) (hw:w.heap.size≤sz) {i:Nat} (hi:idx (fun i=>(Q1 i).nm) (T k) ns=some i) {D:DataW Value} (hD:W.ownsMap Tryz.prog 9 elemV sz (nv - (k+1)) D) (hF:FirstS V (fun j=>schV (Q1 (ixT T ns Q1 j)).nm (Q1 (ixT T ns Q1 j)).v) nv (k+1) D)
 (ho:W'.ownsMap Tryz.prog 9 elemV sz (nv - (k+1)+1) (D.put (keyS (V k)) (.held (schV (Q1 i).nm (Q1 i).v)))) (hg:W.grownBy W' (some sz)):NewJ w s0 sz a1 ns cap1 Q1 av nv cv V T k W':=by
 have hkp:=map_keeps hD hg
 have e:ixT T ns Q1 k=i:=by simp [ixT,hi]
 refine ⟨⟨_,ho.mono (by omega),?_⟩,hkp _ _ rfl h.b0,hkp _ _ rfl h.b1,hkp _ _ rfl h.b2,hkp _ _ rfl h.b3,hkp _ _ rfl h.b4,hkp _ _ rfl h.b5,h.sch.ck (ck_of hkp),h.txs.ck (ck_of hkp),fun j h1 h2=>?_,h.low.grown hg h.low.size (fun j hj=>by cases hj;exact hw)⟩
 · have:=hF.more hD.isMap hk
   rw [e] at this
   exact this
 · by_cases ej:j=k
   · exact ej ▸ ⟨i,hi⟩
   · exact h.has j (by omega) h2
end
theorem NewJ.names {w:World} {s0 sz:Nat} {a1:Option Addr} {ns cap1:Nat} {Q1:Nat→Sch} {av:Option Addr} {nv cv:Nat} {V T:Nat→ByteArray} {W:World} (h:NewJ w s0 sz a1 ns cap1 Q1 av nv cv V T 0 W) (hl:∀ j,j < ns→(Q1 j).l≤16):NamesIn W (sz+1) sz nv V (fun j=>Q1 (ixT T ns Q1 j)):=by
 refine ⟨h.b4.cell,h.map,fun j hj=>?_⟩
 obtain ⟨i,hi⟩:=h.has j (Nat.zero_le _) hj
 have e:ixT T ns Q1 j=i:=by simp [ixT,hi]
 have hlt:=(idx_some _ _ _ _ hi).1
 rw [e]
 exact ⟨(h.sch.2 i hlt).1,hl i hlt⟩
theorem NamesIn.boxset {w:World} {p m n B:Nat} {V:Nat→ByteArray} {S:Nat→Sch} {t:TypeId} {v:Value} (h:NamesIn w p m n V S) (hb:Boxed w B t v) (hv:∀ s,v ≠ .string s) (hp:B ≠ p) (u:Value):NamesIn (w.setCell ⟨B,0,none⟩ u) p m n V S:=by
 obtain ⟨D,h1,h2⟩:=h.map
 exact ⟨by rw [World.cell?_setCell_far _ _ _ _ hp];exact h.box,⟨D,ownV_set hb h1,h2⟩,fun j hj=>⟨(h.flds j hj).1.boxset hb hv u,(h.flds j hj).2⟩⟩
def NewAns (w:World) (nv:Nat) (V:Nat→ByteArray) (ns:Nat) (Q:Nat→Sch) (T:Nat→ByteArray) (e:Ending) (w':World):Prop :=
 (lackB T ns Q nv=false∧∃ p m S,e=.returned (.tuple #[.pointer (some ⟨p,0,none⟩),.int .i64 0])∧NamesIn w' p m nv V S∧(∀ j,j < nv→∃ i,idx (fun i=>(Q i).nm) (T j) ns=some i∧SameS (Q i) (S j))∧Below w.heap.size w w') ∨
   (lackB T ns Q nv=true∧e=.returned (.tuple #[.pointer none,.int .i64 6])∧Below w.heap.size w w')
theorem idx_congr {A B:Nat→ByteArray} (s:ByteArray):∀ {n:Nat},(∀ j,j < n→A j=B j)→idx A s n=idx B s n
 | 0,_=>rfl
 | n+1,h=>by simp only [idx];rw [idx_congr s fun j hj=>h j (by omega),h n (by omega)]
theorem NamesIn.ck {w w':World} {p m n:Nat} {V:Nat→ByteArray} {S:Nat→Sch} (h:NamesIn w p m n V S) (hc:Ck w w') (hm:∀ D,w.ownsMap Tryz.prog 9 elemV m n D→w'.ownsMap Tryz.prog 9 elemV m n D):NamesIn w' p m n V S:=by
 obtain ⟨D,h1,h2⟩:=h.map
 exact ⟨hc _ _ h.box,⟨D,hm _ h1,h2⟩,fun j hj=>⟨(h.flds j hj).1.ck hc,(h.flds j hj).2⟩⟩
theorem new_in (n:Nat) (a:Option Addr) (ns cs:Nat) (Q:Nat→Sch) (av:Option Addr) (nv cv:Nat) (V:Nat→ByteArray) (at_:Option Addr) (ct:Nat) (T:Nat→ByteArray) (w:World) (H:Schs w a ns Q) (hV:Txs w av nv V) (hT:Txs w at_ nv T) (hm:nv≤1048576) (hVs:∀ j,j < nv→(V j).size≤maxLen) (hb:bookZ ns Q=0) :
 CallsIn Fence.wide n Tryz.prog 114 #[.slice a ns cs,.slice av nv cv,.slice at_ nv ct] w fun e w'=>NewAns w nv V ns Q T e w':=by
 have hdd:∀ k:Nat,(Fence.wide.depth.isSome=true→1≤k):=fun k h=>by cases h
 have hmm:=@run_makeMap Tryz.prog
 have CB:Hid (∀ d,Below w.heap.size w d→Calls Tryz.prog 112 #[.slice a ns cs] d (RV (.int .i64 0) d)):=fun d hd=>by rw [← hb];exact book_any a ns cs Q d (H.later hd)
 have CC:Hid (∀ d,Below w.heap.size w d→Calls Tryz.prog 149 #[.slice a ns cs] d _):=fun d hd=>copiedS_any a ns cs Q d (H.later hd) (book_small hb).1 (book_small hb).2
 have HNS:Hid (ns≤16):=(book_small hb).1
 have HL:Hid (∀ j,j < ns→(Q j).l≤16):=(book_small hb).2
 obtain ⟨A,hA,hsz,hB,b0,b1,b2,b3⟩:=new_boxes w (.slice a ns cs) (.slice av nv cv)
 have HB:=hid hB
 have K0:=hid b0
 have K1:=hid b1
 have K2:=hid b2
 have K3:=hid b3
 have HZ:=hid hsz
 have c0:=b0.cell
 have HV:=hid hV
 have HT:=hid hT
 have HVS:=hid hVs
 clear hB hsz b0 b1 b2 b3 H hb hV hT hVs
 refine callsIn_of_wp_marks Tryz.func114 rfl trivial ?_ rfl
 simp only [Tryz.ntmps114,List.size_toArray,List.length_cons,List.length_nil,Nat.reduceAdd,Nat.reduceSub,Array.replicate_succ,Array.replicate_zero,List.push_toArray,List.append_toArray,List.nil_append,List.cons_append]
 gi_wp2_with (first
  | (refine ⟨trivial,hdd _,?_⟩;gi_at_call 150;refine (backward_in _ _ _ _ _).mono ?_;rintro e w' ⟨rfl,rfl⟩)
  | (refine ⟨trivial,hdd _,?_⟩;gi_at_call 149;refine (callsIn_wide.2 (CC.out A1 (bt HB.out hB1))).mono ?_;rintro e A2 ⟨a1,cap1,Q1,rfl,hS1,hQ1,hB2⟩;have HS1:=hid hS1;have HQ1:=hid hQ1;clear hS1 hQ1;have f0:=(Boxed.kept_of K0.out (bt hB1 hB2) (Boxed.lt K0.out));have f0c:=f0.cell;have f0f:=f0.frozen)
  | (refine ⟨trivial,hdd _,?_⟩;gi_at_call 112;refine (callsIn_wide.2 (CB.out A HB.out)).mono ?_;rintro e A1 ⟨rfl,hB1⟩;have d0:=(Boxed.kept_of K0.out hB1 (Boxed.lt K0.out)).cell;have d1:=(Boxed.kept_of K1.out hB1 (Boxed.lt K1.out)).cell))
 obtain ⟨s0,hs0⟩:∃ s0,s0=w.heap.size:=⟨_,rfl⟩
 obtain ⟨sz,hz⟩:∃ sz,sz=A2.heap.size:=⟨_,rfl⟩
 obtain ⟨B,hBB⟩:∃ B,B=(((((A2.setCell ⟨s0,0,none⟩ (.slice a1 ns cap1)).alloc (.map #[] 0)).alloc (.cells #[.map (some sz)] 212)).alloc (.cells #[.pointer (some ⟨sz+1,0,none⟩)] 57)).alloc (.cells #[.slice at_ nv ct] 37)):=⟨_,rfl⟩
 have hB12:Below A.heap.size A A2:=bt hB1 hB2
 have hA4:=HZ.out
 have hA2:=hB12.size
 have hBsz:B.heap.size=sz+4:=by rw [hBB,hz];simp
 have hBA:∀ b t v,b ≠ s0→Boxed A2 b t v→Boxed B b t v:=fun b t v hne h=>by
  rw [hBB]
  exact ((((h.other hne _).alloc _).alloc _).alloc _).alloc _
 have hlow:Below w.heap.size w B:=by
  rw [hBB]
  refine ((((Below.setCell (p:=⟨s0,0,none⟩) (HB.out.trans (hB12.mono (by omega))) (by rw [hs0];exact Nat.le_refl _) _).alloc ?_ _).alloc ?_ _).alloc ?_ _).alloc ?_ _ <;> simp <;> omega
 have hJ0:NewJ w s0 sz a1 ns cap1 Q1 av nv cv V T nv B:=by
  refine ⟨⟨.map [],?_,firstS_none _ _ _⟩,?_,?_,?_,?_,?_,?_,?_,?_,fun j h1 h2=>by omega,hlow⟩
  · rw [hBB]
    have:=World.ownsMap_made (A2.setCell ⟨s0,0,none⟩ (.slice a1 ns cap1)) Tryz.prog 9 elemV
    rw [World.size_setCell,← hz] at this
    exact ((((this.alloc _).alloc _).alloc _).mono (Nat.zero_le _))
  · rw [hBB,hs0]
    exact ((((f0.set _).alloc _).alloc _).alloc _).alloc _
  · refine hBA _ _ _ (by omega) ?_
    rw [hs0]
    exact Boxed.kept_of K1.out hB12 (Boxed.lt K1.out)
  · refine hBA _ _ _ (by omega) ?_
    rw [hs0]
    exact Boxed.kept_of K2.out hB12 (Boxed.lt K2.out)
  · refine hBA _ _ _ (by omega) ?_
    rw [hs0]
    exact Boxed.kept_of K3.out hB12 (Boxed.lt K3.out)
  · rw [hBB]
    have:=((Boxed.new ((A2.setCell ⟨s0,0,none⟩ (.slice a1 ns cap1)).alloc (.map #[] 0)) 212 (.map (some sz))).alloc (.cells #[.pointer (some ⟨sz+1,0,none⟩)] 57)).alloc (.cells #[.slice at_ nv ct] 37)
    rw [World.size_alloc,World.size_setCell,← hz] at this
    exact this
  · rw [hBB]
    have:=(Boxed.new (((A2.setCell ⟨s0,0,none⟩ (.slice a1 ns cap1)).alloc (.map #[] 0)).alloc (.cells #[.map (some sz)] 212)) 57 (.pointer (some ⟨sz+1,0,none⟩))).alloc (.cells #[.slice at_ nv ct] 37)
    rw [World.size_alloc,World.size_alloc,World.size_setCell,← hz] at this
    exact this
  · have h1:Schs (A2.setCell ⟨s0,0,none⟩ (.slice a1 ns cap1)) a1 ns Q1:=HS1.out.boxset (by rw [hs0];exact f0) (fun s e=>by cases e) _
    rw [hBB]
    exact h1.later ((((nwB _ _).alloc (by simp) _).alloc (by simp;omega) _).alloc (by simp;omega) _)
  · exact HV.out.later hlow
 have hbs:Boxed B (sz+1+1+1) 37 (.slice at_ nv ct):=by
  rw [hBB]
  have:=Boxed.new ((((A2.setCell ⟨s0,0,none⟩ (.slice a1 ns cap1)).alloc (.map #[] 0)).alloc (.cells #[.map (some sz)] 212)).alloc (.cells #[.pointer (some ⟨sz+1,0,none⟩)] 57)) 37 (.slice at_ nv ct)
  rw [World.size_alloc,World.size_alloc,World.size_alloc,World.size_setCell,← hz] at this
  exact this
 have hTB:=HT.out.later hlow
 rw [← hs0,← hz,← hBB]
 have HJ0:=hid hJ0
 have hszw:w.heap.size+4≤sz:=by omega
 have HSW:=hid hszw
 have HS0:=hid hs0
 clear hJ0 hlow hBA hA4 hA2 hB12 f0 f0c f0f d0 d1 c0 hA HB K0 K1 K2 K3 HZ hBB hs0 hz HS1 CB CC hmm hB1 hB2 hszw
 refine back_out (sz+1+1+1) at_ nv ct T (NewJ w s0 sz a1 ns cap1 Q1 av nv cv V T) (fun W=>Boxed W (s0+1+1) 57 (.pointer none)∧Boxed W (s0+1+1+1) 32 (.int .i64 6)∧Below w.heap.size w W∧∃ j,j < nv∧idx (fun i=>(Q1 i).nm) (T j) ns=none)
  rfl rfl hbs hTB hm ?_ ?_ ?_ (fun k=>{ tmps:=#[.slice a ns cs,.slice av nv cv,.slice at_ nv ct,.pointer (some ⟨s0,0,none⟩),.pointer (some ⟨s0+1,0,none⟩),undef,.pointer (some ⟨s0+1+1,0,none⟩),.pointer (some ⟨s0+1+1+1,0,none⟩),.pointer (some ⟨sz+1+1,0,none⟩),.int .i64 (k:Nat),.string (T k),undef,undef,.slice a ns cs,.int .i64 0,.bool false,.bool false,.slice av nv cv,.int .i64 (nv:Nat),.slice at_ nv ct,.int .i64 (nv:Nat),.bool false,.bool false,.slice a ns cs,.slice a1 ns cap1,.map (some sz),.agg #[.map (some sz)],.pointer (some ⟨sz+1,0,none⟩),.slice at_ nv ct,.func (.func 179) #[] #[.pointer (some ⟨sz+1+1+1,0,none⟩)],.int .i64 (k:Nat),.string (T k),undef,undef,undef,undef,undef,undef,undef,undef,undef,undef,undef,undef,undef,undef,undef,undef,undef,undef,undef,undef,undef],defers:=[] }) ?_ ?_ ?_ ?_
 · intro k W A hag h
   exact h.ag hag (by omega) (by have:=HSW.out;omega)
 · rintro W A hag ⟨h1,h2,h3,h4⟩
   exact ⟨hag.boxed h1,hag.boxed h2,hag.below (by have:=HSW.out;omega) h3,h4⟩
 · intro W h
   exact HJ0.out.later h
 · intro l k W K hK
   gi_wp2
   first | exact hK | simpa using hK
 · rintro l k W hk hj hs2
   have HJ:=hid hj
   have c0:=hj.b0.cell
   cases e:idx (fun i=>(Q1 i).nm) (T k) ns with
   | none =>
     have hr:Calls Tryz.prog 151 #[.slice a1 ns cap1,.string (T k)] W _:=find_none a1 ns cap1 (fun j=>(Q1 j).nm) (fun j=>(Q1 j).v) (T k) W hj.sch.1 (by have:=HNS.out;omega) (idx_none _ _ _ e)
     have HE:=hid e
     clear hj e
     gi_wp2_with (refine ⟨trivial,hdd _,?_⟩;gi_at_call 151;refine (CallsIn.inRound l (callsIn_wide.2 hr)).mono ?_;rintro e w2 ⟨rfl,hB2⟩;have j2:=HJ.out.later hB2;have g2:=j2.b2.cell;have h2:=j2.b2.frozen;have g3:=(j2.b3.other (show s0+1+1+1 ≠ s0+1+1 by omega) (.pointer none)).cell;have h3:=(j2.b3.other (show s0+1+1+1 ≠ s0+1+1 by omega) (.pointer none)).frozen;have HJ2:=hid j2;clear j2)
     have hwn:=HS0.out
     refine ⟨(((⟨hB2.size,fun k o ho _=>(hB2.block k (Array.getElem?_eq_some_iff.1 ho).1).trans ho⟩:KeepsOthers W w2).trans (KeepsOthers.setCell _ _ _)).trans (KeepsOthers.setCell _ _ _)).from _,(HJ2.out.b2.set _).other (by omega) _,(HJ2.out.b3.other (by omega) _).set _,(HJ2.out.low.setCell (p:=⟨s0+1+1,0,none⟩) ?_ _).setCell (p:=⟨s0+1+1+1,0,none⟩) ?_ _,k,hk,HE.out⟩
     · simp;omega
     · simp;omega
   | some i =>
     obtain ⟨i1,i2,i3⟩:=idx_some _ _ _ _ e
     have hr:Calls Tryz.prog 151 #[.slice a1 ns cap1,.string (T k)] W _:=find_some a1 ns cap1 i (fun j=>(Q1 j).nm) (fun j=>(Q1 j).v) (T k) W hj.sch.1 (by have:=HNS.out;omega) i1 i2 i3
     have HE:=hid e
     clear hj e i2 i3
     gi_wp2_with (refine ⟨trivial,hdd _,?_⟩;gi_at_call 151;refine (CallsIn.inRound l (callsIn_wide.2 hr)).mono ?_;rintro e w2 ⟨rfl,hB2⟩)
     have j2:=HJ.out.later hB2
     obtain ⟨D,hD,hF⟩:=j2.map
     obtain ⟨bv,ov,rfl,hcv⟩:=j2.txs (by omega)
     obtain ⟨bs,os,rfl,hcs⟩:=j2.sch.1 (by omega)
     have hkey:keyOf Tryz.prog 9 (.string (V k))=some (keyS (V k)):=keyOf_string_mk Tryz.underlying9 (HVS.out k hk)
     obtain ⟨w3,hrun,ho3,hg3⟩:=World.ownsMap.update (w:=w2.drew) hD.drew str_law Tryz.underlying210 (by unfold maxLen;omega) hkey (show elemV (.agg #[.string (Q1 i).nm,(Q1 i).v])=some (.held (schV (Q1 i).nm (Q1 i).v),[]) from rfl)
     have q0:w2.drew.cell? ⟨sz+1+1,0,none⟩=_:=j2.b5.cell
     have q3:w2.drew.cell? ⟨sz+1,0,none⟩=_:=j2.b4.cell
     have q4:w2.drew.cell? ⟨s0+1,0,none⟩=_:=j2.b1.cell
     have q7:w2.drew.cell? ⟨bv,ov+k,none⟩=_:=hcv k hk
     have q8:w2.drew.cell? ⟨s0,0,none⟩=_:=j2.b0.cell
     have q11:w2.drew.cell? ⟨bs,os+i * 2,none⟩=_:=(hcs i i1).1.1
     have q12:w2.drew.cell? ⟨bs,os+i * 2+1,none⟩=_:=(hcs i i1).1.2
     have HJ2:=hid j2
     have fin:outPost B.heap.size (NewJ w s0 sz (some ⟨bs,os,none⟩) ns cap1 Q1 (some ⟨bv,ov,none⟩) nv cv V T k) (fun W=>Boxed W (s0+1+1) 57 (.pointer none)∧Boxed W (s0+1+1+1) 32 (.int .i64 6)∧Below w.heap.size w W∧∃ j,j < nv∧idx (fun i=>(Q1 i).nm) (T j) ns=none) W .normal { tmps:=#[],defers:=[] } w3:=by
      have hj3:NewJ w s0 sz (some ⟨bs,os,none⟩) ns cap1 Q1 (some ⟨bv,ov,none⟩) nv cv V T k w3:=(j2.later (Below.drew (Below.refl _ _))).put hk (by have:=HSW.out;omega) HE.out hD.drew hF ho3 hg3
      have hkp:=map_keeps hD.drew hg3
      have hdw:∀ (b:Nat) (o:Obj),W.heap[b]? = some o→w2.drew.heap[b]? = some o:=fun b o e=>(hB2.block b (Array.getElem?_eq_some_iff.1 e).1).trans e
      refine ⟨⟨Nat.le_trans hB2.size hg3.size,fun b o hb ho _=>?_⟩,fun b o _ ho e=>hkp b o ho (hdw b o e),hj3⟩
      have h1:=hdw b o ho
      exact (hg3.block b (Array.getElem?_eq_some_iff.1 h1).1 (fun q=>by injection q;omega)).trans h1
     have FIN:=hid fin
     clear fin j2 hD hF ho3 hg3 hcv hcs hr HJ
     refine wpIn_region_reads 12 [(40,.pointer (some ⟨sz+1,0,none⟩)),(41,.pointer (some ⟨sz+1,0,none⟩)),(42,.pointer (some ⟨sz+1,0,none⟩)),(43,.map (some sz)),(44,.slice (some ⟨bv,ov,none⟩) nv cv),(45,.int .i64 (k:Nat)),(46,.pointer (some ⟨bv,ov+k,none⟩)),(47,.string (V k)),(48,.slice (some ⟨bs,os,none⟩) ns cap1),(49,.int .i64 (i:Nat)),(50,.pointer (some ⟨bs,os+i * 2,none⟩)),(51,.agg #[.string (Q1 i).nm,(Q1 i).v])] _ (by kernel_rfl) (by kernel_rfl) rfl rfl (by kernel_rfl) rfl ?_ ?_ (w1:=w3) ?_
     · generalize hfull:puts _ _=full
       have F3:full[3]? = some (.pointer (some ⟨s0,0,none⟩)):=by rw [← hfull];kernel_rfl
       have F4:full[4]? = some (.pointer (some ⟨s0+1,0,none⟩)):=by rw [← hfull];kernel_rfl
       have F8:full[8]? = some (.pointer (some ⟨sz+1+1,0,none⟩)):=by rw [← hfull];kernel_rfl
       have F9:full[9]? = some (.int .i64 (k:Nat)):=by rw [← hfull];kernel_rfl
       have F11:full[11]? = some (.int .i64 (i:Nat)):=by rw [← hfull];kernel_rfl
       have F40:full[40]? = some (.pointer (some ⟨sz+1,0,none⟩)):=by rw [← hfull];kernel_rfl
       have F41:full[41]? = some (.pointer (some ⟨sz+1,0,none⟩)):=by rw [← hfull];kernel_rfl
       have F42:full[42]? = some (.pointer (some ⟨sz+1,0,none⟩)):=by rw [← hfull];kernel_rfl
       have F43:full[43]? = some (.map (some sz)):=by rw [← hfull];kernel_rfl
       have F44:full[44]? = some (.slice (some ⟨bv,ov,none⟩) nv cv):=by rw [← hfull];kernel_rfl
       have F45:full[45]? = some (.int .i64 (k:Nat)):=by rw [← hfull];kernel_rfl
       have F46:full[46]? = some (.pointer (some ⟨bv,ov+k,none⟩)):=by rw [← hfull];kernel_rfl
       have F47:full[47]? = some (.string (V k)):=by rw [← hfull];kernel_rfl
       have F48:full[48]? = some (.slice (some ⟨bs,os,none⟩) ns cap1):=by rw [← hfull];kernel_rfl
       have F49:full[49]? = some (.int .i64 (i:Nat)):=by rw [← hfull];kernel_rfl
       have F50:full[50]? = some (.pointer (some ⟨bs,os+i * 2,none⟩)):=by rw [← hfull];kernel_rfl
       have F51:full[51]? = some (.agg #[.string (Q1 i).nm,(Q1 i).v]):=by rw [← hfull];kernel_rfl
       clear hfull
       simp only [List.take_succ_cons,List.take_zero,Reads]
       have hk':(k:Int) < (nv:Int):=by omega
       have hi':(i:Int) < (ns:Int):=by omega
       refine ⟨⟨_,_,rfl,F40,?_⟩,⟨_,_,rfl,F41,?_⟩,⟨_,_,rfl,F42,?_⟩,⟨_,_,rfl,F43,?_⟩,⟨_,_,rfl,F44,?_⟩,⟨_,_,rfl,F45,?_⟩,⟨_,_,rfl,F46,?_⟩,⟨_,_,rfl,F47,?_⟩,⟨_,_,rfl,F48,?_⟩,⟨_,_,rfl,F49,?_⟩,⟨_,_,rfl,F50,?_⟩,⟨_,_,rfl,F51,?_⟩,trivial⟩
       all_goals simp [execOp,Act.eval,go_sem,Array.getD_eq_getD_getElem?,F3,F4,F8,F9,F11,F40,F41,F42,F44,F45,F46,F48,F49,F50,q0,q3,q4,q7,q8,q11,q12]
       all_goals (intro h;omega)
     · generalize hfull:puts _ _=full
       have F43:full[43]? = some (.map (some sz)):=by rw [← hfull];kernel_rfl
       have F47:full[47]? = some (.string (V k)):=by rw [← hfull];kernel_rfl
       have F51:full[51]? = some (.agg #[.string (Q1 i).nm,(Q1 i).v]):=by rw [← hfull];kernel_rfl
       clear hfull
       simp [execOp,Act.eval,go_sem,Array.getD_eq_getD_getElem?,F43,F47,F51,hrun]
     · exact FIN.out
 · rintro D W hD hj hK
   have g5:=hj.b5.cell
   have g2:=hj.b2.cell
   have h2:=hj.b2.frozen
   have k3:=hj.b3.other (show s0+1+1+1 ≠ s0+1+1 by omega) (.pointer (some ⟨sz+1,0,none⟩))
   have g3:=k3.cell
   have h3:=k3.frozen
   have HJ:=hid hj
   clear hj k3
   have hnm:∀ s:ByteArray,idx (fun i=>(Q1 i).nm) s ns=idx (fun i=>(Q i).nm) s ns:=fun s=>idx_congr s fun j hj=>(HQ1.out j hj).1
   have hwn:=HS0.out
   have hsw:=HSW.out
   have hb2:=(HJ.out.b2.set (.pointer (some ⟨sz+1,0,none⟩))).other (show s0+1+1 ≠ s0+1+1+1 by omega) (.int .i64 0)
   have hb3:=(HJ.out.b3.other (show s0+1+1+1 ≠ s0+1+1 by omega) (.pointer (some ⟨sz+1,0,none⟩))).set (.int .i64 0)
   have hN:=((HJ.out.names fun j hj=>by rw [(HQ1.out j hj).2.1];exact HL.out j hj).boxset HJ.out.b2 (fun s e=>by cases e) (by omega) (.pointer (some ⟨sz+1,0,none⟩))).boxset (HJ.out.b3.other (show s0+1+1+1 ≠ s0+1+1 by omega) _) (fun s e=>by cases e) (by omega) (.int .i64 0)
   have hlo:=(HJ.out.low.setCell (p:=⟨s0+1+1,0,none⟩) (by simp;omega) (.pointer (some ⟨sz+1,0,none⟩))).setCell (p:=⟨s0+1+1+1,0,none⟩) (by simp;omega) (.int .i64 0)
   obtain ⟨Z,hZ⟩:∃ Z,((W.setCell ⟨s0+1+1,0,none⟩ (.pointer (some ⟨sz+1,0,none⟩))).setCell ⟨s0+1+1+1,0,none⟩ (.int .i64 0))=Z:=⟨_,rfl⟩
   have hKZ:Z.heap[D]? = some (.deferred (some [])):=by rw [← hZ];exact (KeepsOthers.setCell _ _ _).same D _ ((KeepsOthers.setCell _ _ _).same D _ hK rfl) rfl
   rw [hZ] at hb2 hb3 hN hlo
   have hag:Ag B.heap.size Z (Z.putObj D (.deferred none)):=Ag.putObj hD hKZ rfl rfl
   have hlk:lackB T ns Q nv=false:=by
    cases hq:lackB T ns Q nv with
    | false=>rfl
    | true =>
      exfalso
      have key:∀ m,m≤nv→lackB T ns Q m=false:=by
       intro m
       induction m with
       | zero=>intro _;rfl
       | succ m ih =>
         intro hm'
         obtain ⟨i,hi⟩:=HJ.out.has m (Nat.zero_le _) (by omega)
         rw [hnm] at hi
         simp [lackB,ih (by omega),hi]
      rw [key nv (Nat.le_refl _)] at hq
      cases hq
   have HFin:Hid (NewAns w nv V ns Q T (.returned (.tuple #[.pointer (some ⟨sz+1,0,none⟩),.int .i64 0])) (Z.putObj D (.deferred none))):=by
    refine .inl ⟨hlk,sz+1,sz,_,rfl,hN.ck hag.ck (fun D=>ownV_ag hag (by omega)),fun j hj=>?_,hag.below (by omega) hlo⟩
    obtain ⟨i,hi⟩:=HJ.out.has j (Nat.zero_le _) hj
    have e:ixT T ns Q1 j=i:=by simp [ixT,hi]
    rw [hnm] at hi
    exact ⟨i,hi,by rw [e];exact HQ1.out i (idx_some _ _ _ _ hi).1⟩
   have hc1:=cell_kept hb2.cell (grownBy_putObj' _ D (.deferred none)) (fun r e=>by cases e;exact ⟨_,hKZ,rfl⟩)
   have hc2:=cell_kept hb3.cell (grownBy_putObj' _ D (.deferred none)) (fun r e=>by cases e;exact ⟨_,hKZ,rfl⟩)
   clear hN hlo hag hlk hb2 hb3 hnm hwn hsw
   gi_wp2
   try rw [hZ]
   refine ⟨by simp,.inl ⟨_,_,rfl,run_takeDeferred hKZ,?_⟩⟩
   refine ⟨.tuple #[.pointer (some ⟨sz+1,0,none⟩),.int .i64 0],?_,HFin.out⟩
   simp [results,Tryz.f114,go_sem,hc1,hc2]
 · rintro D W hD ⟨x1,x2,x3,x4⟩ hK
   have hc1:=cell_kept x1.cell (grownBy_putObj' _ D (.deferred none)) (fun r e=>by cases e;exact ⟨_,hK,rfl⟩)
   have hc2:=cell_kept x2.cell (grownBy_putObj' _ D (.deferred none)) (fun r e=>by cases e;exact ⟨_,hK,rfl⟩)
   gi_wp2
   refine ⟨by simp,.inl ⟨_,_,rfl,run_takeDeferred hK,?_⟩⟩
   refine ⟨.tuple #[.pointer none,.int .i64 6],?_,.inr ⟨?_,rfl,?_⟩⟩
   · simp [results,Tryz.f114,go_sem,hc1,hc2]
   · obtain ⟨j,hj,e⟩:=x4
     rw [idx_congr (T j) fun j hj=>(HQ1.out j hj).1] at e
     exact lackB_at e hj
   · exact (Ag.putObj (B:=w.heap.size) (by have:=HSW.out;omega) hK rfl rfl).below (Nat.le_refl _) x3
attribute [local go_sem] Oper.semAt_some
theorem new_book (n:Nat) (a:Option Addr) (ns cs:Nat) (Q:Nat→Sch) (av:Option Addr) (nv cv:Nat) (at_:Option Addr) (nt ct:Nat) (w:World) (H:Schs w a ns Q) (hb:¬ bookZ ns Q=0) :
 CallsIn Fence.wide n Tryz.prog 114 #[.slice a ns cs,.slice av nv cv,.slice at_ nt ct] w (RV (.tuple #[.pointer none,.int .i64 1]) w):=by
 have hdd:∀ k:Nat,(Fence.wide.depth.isSome=true→1≤k):=fun k h=>by cases h
 obtain ⟨A,hA,hsz,hB,b0,b1,b2,b3⟩:=new_boxes w (.slice a ns cs) (.slice av nv cv)
 have CB:Calls Tryz.prog 112 #[.slice a ns cs] A (RV (.int .i64 (bookZ ns Q)) A):=book_any a ns cs Q A (H.later hB)
 have hb':(bookZ ns Q != 0)=true:=by simp [hb]
 generalize bookZ ns Q=r at CB hb' hb
 have HCB:=hid CB
 have HB:=hid hB
 have K1:=hid b1
 have K2:=hid b2
 have K3:=hid b3
 have c0:=b0.cell
 clear hB hsz b0 b1 b2 b3 H CB
 refine callsIn_of_wp_marks Tryz.func114 rfl trivial ?_ rfl
 simp only [Tryz.ntmps114,List.size_toArray,List.length_cons,List.length_nil,Nat.reduceAdd,Nat.reduceSub,Array.replicate_succ,Array.replicate_zero,List.push_toArray,List.append_toArray,List.nil_append,List.cons_append]
 gi_wp2_with (first
  | (refine ⟨trivial,hdd _,?_⟩;gi_at_call 112;refine (callsIn_wide.2 HCB.out).mono ?_;rintro e A1 ⟨rfl,hB1⟩;have d1:=(Boxed.kept_of K1.out hB1 (Boxed.lt K1.out)).cell;have k2:=Boxed.kept_of K2.out hB1 (Boxed.lt K2.out);have k3:=Boxed.kept_of K3.out hB1 (Boxed.lt K3.out);have g2:=k2.cell;have h2:=k2.frozen;have k3':=k3.other (show w.heap.size+1+1+1 ≠ w.heap.size+1+1 by omega) (.pointer none);have g3:=k3'.cell;have h3:=k3'.frozen;have HK2:=hid k2;have HK3:Hid (Boxed _ (w.heap.size+1+1+1) 32 (.int .i64 0)):=k3';clear k2 k3 k3'))
 have r2:=((HK2.out.set (.pointer none)).other (show w.heap.size+1+1 ≠ w.heap.size+1+1+1 by omega) (.int .i64 1)).cell
 have r3:=(HK3.out.set (.int .i64 1)).cell
 refine ⟨.tuple #[.pointer none,.int .i64 1],?_,rfl,?_⟩
 · simp [results,Tryz.f114,go_sem,r2,r3]
 · have hq:=hB1.mono HB.out.size
   exact ((HB.out.trans hq).setCell (p:=⟨w.heap.size+1+1,0,none⟩) (by simp;omega) _).setCell (p:=⟨w.heap.size+1+1+1,0,none⟩) (by simp;omega) _
theorem new_lens (n:Nat) (a:Option Addr) (ns cs:Nat) (Q:Nat→Sch) (av:Option Addr) (nv cv:Nat) (at_:Option Addr) (nt ct:Nat) (w:World) (H:Schs w a ns Q) (hb:bookZ ns Q=0) (hne:¬ nv=nt) :
 CallsIn Fence.wide n Tryz.prog 114 #[.slice a ns cs,.slice av nv cv,.slice at_ nt ct] w (RV (.tuple #[.pointer none,.int .i64 1]) w):=by
 have hdd:∀ k:Nat,(Fence.wide.depth.isSome=true→1≤k):=fun k h=>by cases h
 obtain ⟨A,hA,hsz,hB,b0,b1,b2,b3⟩:=new_boxes w (.slice a ns cs) (.slice av nv cv)
 have CB:Calls Tryz.prog 112 #[.slice a ns cs] A (RV (.int .i64 (bookZ ns Q)) A):=book_any a ns cs Q A (H.later hB)
 rw [hb] at CB
 have hne':((nv:Int) != (nt:Int))=true:=by simp;omega
 have HCB:=hid CB
 have HB:=hid hB
 have K1:=hid b1
 have K2:=hid b2
 have K3:=hid b3
 have c0:=b0.cell
 clear hB hsz b0 b1 b2 b3 H CB
 refine callsIn_of_wp_marks Tryz.func114 rfl trivial ?_ rfl
 simp only [Tryz.ntmps114,List.size_toArray,List.length_cons,List.length_nil,Nat.reduceAdd,Nat.reduceSub,Array.replicate_succ,Array.replicate_zero,List.push_toArray,List.append_toArray,List.nil_append,List.cons_append]
 gi_wp2_with (first
  | (refine ⟨trivial,hdd _,?_⟩;gi_at_call 112;refine (callsIn_wide.2 HCB.out).mono ?_;rintro e A1 ⟨rfl,hB1⟩;have d1:=(Boxed.kept_of K1.out hB1 (Boxed.lt K1.out)).cell;have k2:=Boxed.kept_of K2.out hB1 (Boxed.lt K2.out);have k3:=Boxed.kept_of K3.out hB1 (Boxed.lt K3.out);have g2:=k2.cell;have h2:=k2.frozen;have k3':=k3.other (show w.heap.size+1+1+1 ≠ w.heap.size+1+1 by omega) (.pointer none);have g3:=k3'.cell;have h3:=k3'.frozen;have HK2:=hid k2;have HK3:Hid (Boxed _ (w.heap.size+1+1+1) 32 (.int .i64 0)):=k3';clear k2 k3 k3'))
 have r2:=((HK2.out.set (.pointer none)).other (show w.heap.size+1+1 ≠ w.heap.size+1+1+1 by omega) (.int .i64 1)).cell
 have r3:=(HK3.out.set (.int .i64 1)).cell
 refine ⟨.tuple #[.pointer none,.int .i64 1],?_,rfl,?_⟩
 · simp [results,Tryz.f114,go_sem,r2,r3]
 · have hq:=hB1.mono HB.out.size
   exact ((HB.out.trans hq).setCell (p:=⟨w.heap.size+1+1,0,none⟩) (by simp;omega) _).setCell (p:=⟨w.heap.size+1+1+1,0,none⟩) (by simp;omega) _
def NewIs (w:World) (nv:Nat) (V:Nat→ByteArray) (nt:Nat) (T:Nat→ByteArray) (ns:Nat) (Q:Nat→Sch) (e:Ending) (w':World):Prop :=
 (newZ nv nt T ns Q=0∧nv=nt∧∃ p m S,e=.returned (.tuple #[.pointer (some ⟨p,0,none⟩),.int .i64 0])∧NamesIn w' p m nv V S∧(∀ j,j < nv→∃ i,idx (fun i=>(Q i).nm) (T j) ns=some i∧SameS (Q i) (S j))∧Below w.heap.size w w') ∨
   (¬ newZ nv nt T ns Q=0∧e=.returned (.tuple #[.pointer none,.int .i64 (newZ nv nt T ns Q)])∧Below w.heap.size w w')
theorem new_any (a:Option Addr) (ns cs:Nat) (Q:Nat→Sch) (av:Option Addr) (nv cv:Nat) (V:Nat→ByteArray) (at_:Option Addr) (nt ct:Nat) (T:Nat→ByteArray) (w:World) (H:Schs w a ns Q) (hV:Txs w av nv V) (hT:Txs w at_ nt T) (hm:nt≤1048576) (hVs:∀ j,j < nv→(V j).size≤maxLen) :
 Calls Tryz.prog 114 #[.slice a ns cs,.slice av nv cv,.slice at_ nt ct] w fun e w'=>NewIs w nv V nt T ns Q e w':=by
 refine (callsIn_wide (n:=3)).1 ?_
 by_cases hb:bookZ ns Q=0
 · by_cases hne:nv=nt
   · subst hne
     refine (new_in 3 a ns cs Q av nv cv V at_ ct T w H hV hT hm hVs hb).mono ?_
     rintro e w' (⟨h1,p,m,S,h2⟩ | ⟨h1,h2⟩)
     · exact .inl ⟨by simp [newZ,hb,h1],rfl,p,m,S,h2⟩
     · have e6:newZ nv nv T ns Q=6:=by simp [newZ,hb,h1]
       exact .inr ⟨by omega,by rw [e6];exact h2⟩
   · refine (new_lens 3 a ns cs Q av nv cv at_ nt ct w H hb hne).mono ?_
     rintro e w' h
     have e1:newZ nv nt T ns Q=1:=by simp [newZ,hne]
     exact .inr ⟨by omega,by rw [e1];exact h⟩
 · refine (new_book 3 a ns cs Q av nv cv at_ nt ct w H hb).mono ?_
   rintro e w' h
   have e1:newZ nv nt T ns Q=1:=by simp [newZ,hb]
   exact .inr ⟨by omega,by rw [e1];exact h⟩
end Go.Proofs.YtkfpgkohkhhlhaaGreatDoor
