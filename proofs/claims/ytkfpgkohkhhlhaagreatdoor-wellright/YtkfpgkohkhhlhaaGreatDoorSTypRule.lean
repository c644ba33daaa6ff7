/- Texts that the last one stands on. -/
import Derived.Test.YtkfpgkohkhhlhaaGreatDoorSTypClone
import Derived.Test.YtkfpgkohkhhlhaaGreatDoorSExprRefRightN
import Derived.Test.YtkfpgkohkhhlhaaGreatDoorSSchField
set_option maxRecDepth 100000
set_option maxHeartbeats 4000000
namespace Go.Proofs.YtkfpgkohkhhlhaaGreatDoor
open Go.RowKit
theorem all11_any (q k:Int) (p:Nat) (w:World) (hp:w.cell? ⟨p,0,none⟩ = some (.int .i64 k)):Calls Tryz.prog 222 #[.int .i64 q,.pointer (some ⟨p,0,none⟩)] w fun e w'=>e = .returned (.bool (!decide (q = k)))∧w' = w:=by
 by_cases e:q = k
 · subst e
   go_enter Tryz.func222,Tryz.ntmps222
   go_wp2
   go_ret
   exact ⟨by simp,rfl⟩
 · have e2:(q != k) = true:=by simp [e]
   go_enter Tryz.func222,Tryz.ntmps222
   go_wp2
   go_ret
   exact ⟨by simp [e],rfl⟩
theorem indexI_some (a:Option Addr) (n cap i p:Nat) (K:Nat→Int) (k0:Int) (w:World) (H:IsI w a n K) (hn:n ≤ 1048576) (hp:w.cell? ⟨p,0,none⟩ = some (.int .i64 k0)) (hi:i < n) (he:¬ K i = k0) (hl:∀ j,j < i→K j = k0) :
 Calls Tryz.prog 224 #[.slice a n cap,.func (.func 222) #[] #[.pointer (some ⟨p,0,none⟩)]] w fun e w'=>e = .returned (.int .i64 i)∧w' = w:=by
 obtain ⟨b,off,rfl,hc⟩:=H (by omega)
 have HC:=hid hc
 have HE:=hid he
 have HL:=hid hl
 have HP:=hid hp
 clear H hc he hl hp
 go_enter Tryz.func224,Tryz.ntmps224
 go_wp2
 go_loopw [8] (fun v wr=>∃ k:Nat,k ≤ i∧v = .int .i64 k∧wr = w) (fun v _=>i - (intOf v).toNat)
 case atStart=>exact ⟨0,Nat.zero_le _,rfl,rfl⟩
 case round =>
  obtain ⟨k,hk,rfl,rfl⟩:=hrel
  have hkn:k < n:=by omega
  have f0:=HC.out k hkn
  have C:Hid (Calls Tryz.prog 222 _ wr _):=all11_any (K k) k0 p wr HP.out
  by_cases hki:k = i
  · subst hki
    rw [decide_eq_false HE.out] at C
    go_wp2_with (first | (go_at_call 222;refine C.out.mono ?_;rintro e w1 ⟨rfl,rfl⟩))
    try rw [Exit.noGoto_ret]
    go_ret
    exact ⟨rfl,rfl⟩
  · rw [decide_eq_true (HL.out k (by omega))] at C
    go_wp2_with (first | (go_at_call 222;refine C.out.mono ?_;rintro e w1 ⟨rfl,rfl⟩))
    go_roundw
    case rel=>exact ⟨k + 1,by omega,by go_num,by first | rfl | trivial⟩
    case measure=>simp [intOf];omega
theorem indexI_none (a:Option Addr) (n cap p:Nat) (K:Nat→Int) (k0:Int) (w:World) (H:IsI w a n K) (hn:n ≤ 1048576) (hp:w.cell? ⟨p,0,none⟩ = some (.int .i64 k0)) (hl:∀ j,j < n→K j = k0) :
 Calls Tryz.prog 224 #[.slice a n cap,.func (.func 222) #[] #[.pointer (some ⟨p,0,none⟩)]] w fun e w'=>e = .returned (.int .i64 (-1))∧w' = w:=by
 have HC:=hid H
 have HL:=hid hl
 have HP:=hid hp
 clear H hl hp
 go_enter Tryz.func224,Tryz.ntmps224
 go_wp2
 go_loopw [8] (fun v wr=>∃ k:Nat,k ≤ n∧v = .int .i64 k∧wr = w) (fun v _=>n - (intOf v).toNat)
 case atStart=>exact ⟨0,Nat.zero_le _,rfl,rfl⟩
 case round =>
  obtain ⟨k,hk,rfl,rfl⟩:=hrel
  by_cases hkn:k < n
  · obtain ⟨b,off,rfl,hc⟩:=HC.out (by omega)
    have f0:=hc k hkn
    have C:Hid (Calls Tryz.prog 222 _ wr _):=all11_any (K k) k0 p wr HP.out
    rw [decide_eq_true (HL.out k hkn)] at C
    clear hc
    go_wp2_with (first | (go_at_call 222;refine C.out.mono ?_;rintro e w1 ⟨rfl,rfl⟩))
    go_roundw
    case rel=>exact ⟨k + 1,by omega,by go_num,by first | rfl | trivial⟩
    case measure=>simp [intOf];omega
  · go_wp2
    go_ret
    exact ⟨rfl,rfl⟩
theorem otherI_any (a:Option Addr) (n cap p:Nat) (K:Nat→Int) (k0:Int) (w:World) (H:IsI w a n K) (hn:n ≤ 1048576) (hp:w.cell? ⟨p,0,none⟩ = some (.int .i64 k0)) :
 Calls Tryz.prog 221 #[.slice a n cap,.func (.func 222) #[] #[.pointer (some ⟨p,0,none⟩)]] w fun e w'=>e = .returned (.bool (!allB K k0 n))∧w' = w:=by
 rcases allB_or K k0 n with h | ⟨i,h1,h2,h3⟩
 · rw [allB_yes h]
   have C:Hid (Calls Tryz.prog 224 _ w _):=indexI_none a n cap p K k0 w H hn hp h
   clear H hn hp h
   go_enter Tryz.func221,Tryz.ntmps221
   go_wp2_with (first | (go_at_call 224;refine C.out.mono ?_;rintro e w1 ⟨rfl,rfl⟩))
   go_ret
   exact ⟨rfl,rfl⟩
 · rw [allB_no h2 h1]
   have C:Hid (Calls Tryz.prog 224 _ w _):=indexI_some a n cap i p K k0 w H hn hp h1 h2 h3
   have h0:(0:Int) ≤ i:=by omega
   clear H hn hp h1 h2 h3
   go_enter Tryz.func221,Tryz.ntmps221
   go_wp2_with (first | (go_at_call 224;refine C.out.mono ?_;rintro e w1 ⟨rfl,rfl⟩))
   go_ret
   exact ⟨by simp,rfl⟩
theorem all1_any (a:Option Addr) (n cap p:Nat) (K:Nat→Int) (k0:Int) (w:World) (H:IsI w a n K) (hn:n ≤ 1048576) (hp:w.cell? ⟨p,0,none⟩ = some (.int .i64 k0)) :
 Calls Tryz.prog 220 #[.slice a n cap,.pointer (some ⟨p,0,none⟩)] w fun e w'=>e = .returned (.bool (allB K k0 n))∧w' = w:=by
 have C:Hid (Calls Tryz.prog 221 _ w _):=otherI_any a n cap p K k0 w H hn hp
 clear H hn hp
 generalize allB K k0 n = r at C ⊢
 cases r
 · go_enter Tryz.func220,Tryz.ntmps220
   go_wp2_with (first | (go_at_call 221;refine C.out.mono ?_;rintro e w1 ⟨rfl,rfl⟩))
   go_ret
   exact ⟨rfl,rfl⟩
 · go_enter Tryz.func220,Tryz.ntmps220
   go_wp2_with (first | (go_at_call 221;refine C.out.mono ?_;rintro e w1 ⟨rfl,rfl⟩))
   go_ret
   exact ⟨rfl,rfl⟩
theorem allT_any (k0:Int) (w:World):Calls Tryz.prog 213 #[.int .i64 k0] w fun e w'=>e = .returned (.func (.func 220) #[] #[.pointer (some ⟨w.heap.size,0,none⟩)])∧w' = w.alloc (.cells #[.int .i64 k0] 3):=by
 go_enter Tryz.func213,Tryz.ntmps213
 go_wp2
 go_ret
 exact ⟨rfl,rfl⟩
theorem box_at (w:World) (k0:Int):(w.alloc (.cells #[.int .i64 k0] 3)).cell? ⟨w.heap.size,0,none⟩ = some (.int .i64 k0):=by rw [World.cell?_alloc_at _ _ _ _ rfl];rfl
theorem hasI_some (a:Option Addr) (n cap i:Nat) (K:Nat→Int) (k0:Int) (w:World) (H:IsI w a n K) (hn:n ≤ 1048576) (hi:i < n) (he:K i = k0) (hl:∀ j,j < i→¬ K j = k0) :
 Calls Tryz.prog 225 #[.slice a n cap,.int .i64 k0] w fun e w'=>e = .returned (.int .i64 i)∧w' = w:=by
 obtain ⟨b,off,rfl,hc⟩:=H (by omega)
 have HC:=hid hc
 have HE:=hid he
 have HL:=hid hl
 clear H hc he hl
 go_enter Tryz.func225,Tryz.ntmps225
 go_wp2
 go_loopw [8] (fun v wr=>∃ k:Nat,k ≤ i∧v = .int .i64 k∧wr = w) (fun v _=>i - (intOf v).toNat)
 case atStart=>exact ⟨0,Nat.zero_le _,rfl,rfl⟩
 case round =>
  obtain ⟨k,hk,rfl,rfl⟩:=hrel
  have hkn:k < n:=by omega
  have f0:=HC.out k hkn
  by_cases hki:k = i
  · subst hki
    rw [HE.out] at f0
    go_wp2
    try rw [Exit.noGoto_ret]
    go_ret
    exact ⟨rfl,rfl⟩
  · have h1:¬ k0 = K k:=fun h=>HL.out k (by omega) h.symm
    go_wp2
    go_roundw
    case rel=>exact ⟨k + 1,by omega,by go_num,by first | rfl | trivial⟩
    case measure=>simp [intOf];omega
theorem hasI_none (a:Option Addr) (n cap:Nat) (K:Nat→Int) (k0:Int) (w:World) (H:IsI w a n K) (hn:n ≤ 1048576) (hl:∀ j,j < n→¬ K j = k0) :
 Calls Tryz.prog 225 #[.slice a n cap,.int .i64 k0] w fun e w'=>e = .returned (.int .i64 (-1))∧w' = w:=by
 have HC:=hid H
 have HL:=hid hl
 clear H hl
 go_enter Tryz.func225,Tryz.ntmps225
 go_wp2
 go_loopw [8] (fun v wr=>∃ k:Nat,k ≤ n∧v = .int .i64 k∧wr = w) (fun v _=>n - (intOf v).toNat)
 case atStart=>exact ⟨0,Nat.zero_le _,rfl,rfl⟩
 case round =>
  obtain ⟨k,hk,rfl,rfl⟩:=hrel
  by_cases hkn:k < n
  · obtain ⟨b,off,rfl,hc⟩:=HC.out (by omega)
    have f0:=hc k hkn
    have h1:¬ k0 = K k:=fun h=>HL.out k hkn h.symm
    clear hc
    go_wp2
    go_roundw
    case rel=>exact ⟨k + 1,by omega,by go_num,by first | rfl | trivial⟩
    case measure=>simp [intOf];omega
  · go_wp2
    go_ret
    exact ⟨rfl,rfl⟩
theorem nullI_any (a:Option Addr) (cap:Nat) (K:Nat→Int) (w:World) (H:IsI w a 2 K) :
 Calls Tryz.prog 223 #[.slice a 2 cap,.int .i64 0] w fun e w'=>e = .returned (.bool (decide (K 0 = 0) || decide (K 1 = 0)))∧w' = w:=by
 have key:(∃ i:Nat,(decide (K 0 = 0) || decide (K 1 = 0)) = true∧Calls Tryz.prog 225 #[.slice a (2:Nat) cap,.int .i64 0] w fun e w'=>e = .returned (.int .i64 i)∧w' = w) ∨ ((decide (K 0 = 0) || decide (K 1 = 0)) = false∧Calls Tryz.prog 225 #[.slice a (2:Nat) cap,.int .i64 0] w fun e w'=>e = .returned (.int .i64 (-1))∧w' = w):=by
  by_cases h0:K 0 = 0
  · exact .inl ⟨0,by simp [h0],hasI_some a 2 cap 0 K 0 w H (by omega) (by omega) h0 fun j hj=>by omega⟩
  · by_cases h1:K 1 = 0
    · exact .inl ⟨1,by simp [h1],hasI_some a 2 cap 1 K 0 w H (by omega) (by omega) h1 fun j hj=>(show j = 0 by omega) ▸ h0⟩
    · refine .inr ⟨by simp [h0,h1],hasI_none a 2 cap K 0 w H (by omega) fun j hj=>?_⟩
      match j,hj with
      | 0,_=>exact h0
      | 1,_=>exact h1
 clear H
 rcases key with ⟨i,e,c⟩ | ⟨e,c⟩
 · rw [e]
   have C:=hid c
   have h0:(0:Int) ≤ i:=by omega
   clear c e
   go_enter Tryz.func223,Tryz.ntmps223
   go_wp2_with (first | (go_at_call 225;refine C.out.mono ?_;rintro e w1 ⟨rfl,rfl⟩))
   go_ret
   exact ⟨by simp,rfl⟩
 · rw [e]
   have C:=hid c
   clear c e
   go_enter Tryz.func223,Tryz.ntmps223
   go_wp2_with (first | (go_at_call 225;refine C.out.mono ?_;rintro e w1 ⟨rfl,rfl⟩))
   go_ret
   exact ⟨rfl,rfl⟩
theorem alike_any (a:Option Addr) (cap:Nat) (K:Nat→Int) (w:World) (H:IsI w a 2 K) :
 Calls Tryz.prog 214 #[.slice a 2 cap] w (RV (.bool (decide (K 0 = K 1) || (decide (K 0 = 0) || decide (K 1 = 0)))) w):=by
 have C:Hid (∀ d,Below w.heap.size w d→Calls Tryz.prog 223 _ d _):=fun d hd=>nullI_any a cap K d (H.later hd)
 obtain ⟨b,o,rfl,hc⟩:=H (by omega)
 have f0:=hc 0 (by omega)
 have f1:=hc 1 (by omega)
 rw [Nat.add_zero] at f0
 clear hc H
 by_cases h:K 0 = K 1
 · rw [decide_eq_true h]
   clear C
   rw [← h] at f1
   generalize K 0 = k0 at *
   go_enter Tryz.func214,Tryz.ntmps214
   go_wp2
   go_quiet (fail)
   go_wp2
   go_ret
   exact ⟨rfl,below_drewN (Below.refl _ _) _⟩
 · rw [decide_eq_false h]
   have h':(K 0 == K 1) = false:=by simp [h]
   generalize (decide (K 0 = 0) || decide (K 1 = 0)) = r at C ⊢
   go_enter Tryz.func214,Tryz.ntmps214
   go_wp2
   go_region_with (first | (go_at_call 223;refine (C.out _ (by first | exact Below.refl _ _ | exact (Below.refl _ _).drew| exact below_drewN (Below.refl _ _) _)).mono ?_;rintro e w1 ⟨rfl,rfl⟩))
   all_goals go_wp2
   all_goals go_ret
   all_goals exact ⟨rfl,(Below.refl _ _).drew⟩
theorem ordered_any (a:Option Addr) (n cap:Nat) (K:Nat→Int) (w:World) (H:IsI w a n K) (hn:n ≤ 1048576) :
 Calls Tryz.prog 215 #[.slice a n cap] w (RV (.bool (allB K 2 n || allB K 3 n)) w):=by
 obtain ⟨w1,hw1⟩:∃ w1,w1 = w.alloc (.cells #[.int .i64 2] 3):=⟨_,rfl⟩
 obtain ⟨w2,hw2⟩:∃ w2,w2 = w1.alloc (.cells #[.int .i64 3] 3):=⟨_,rfl⟩
 have hB1:Below w.heap.size w w1:=by rw [hw1];exact nwB _ _
 have hB2:Below w1.heap.size w1 w2:=by rw [hw2];exact nwB _ _
 have C1:Hid (Calls Tryz.prog 220 #[.slice a n cap,.pointer (some ⟨w.heap.size,0,none⟩)] w1 fun e w'=>e = .returned (.bool (allB K 2 n))∧w' = w1):=all1_any a n cap w.heap.size K 2 w1 (H.later hB1) hn (by rw [hw1];exact box_at w 2)
 have C2:Hid (Calls Tryz.prog 220 #[.slice a n cap,.pointer (some ⟨w1.heap.size,0,none⟩)] w2 fun e w'=>e = .returned (.bool (allB K 3 n))∧w' = w2):=all1_any a n cap w1.heap.size K 3 w2 ((H.later hB1).later hB2) hn (by rw [hw2];exact box_at w1 3)
 have A1:Hid (Calls Tryz.prog 213 #[.int .i64 2] w fun e w'=>e = .returned (.func (.func 220) #[] #[.pointer (some ⟨w.heap.size,0,none⟩)])∧w' = w1):=by rw [hw1];exact allT_any 2 w
 have A2:Hid (Calls Tryz.prog 213 #[.int .i64 3] w1 fun e w'=>e = .returned (.func (.func 220) #[] #[.pointer (some ⟨w1.heap.size,0,none⟩)])∧w' = w2):=by rw [hw2];exact allT_any 3 w1
 clear H hn hw1 hw2
 generalize allB K 2 n = r at C1 ⊢
 generalize allB K 3 n = s at C2 ⊢
 cases r
 · go_enter Tryz.func215,Tryz.ntmps215
   go_wp2_with (first
    | (go_at_call 213;refine A2.out.mono ?_;rintro e w' ⟨rfl,rfl⟩)
    | (go_at_call 213;refine A1.out.mono ?_;rintro e w' ⟨rfl,rfl⟩)
    | (go_at_call 220;refine C2.out.mono ?_;rintro e w' ⟨rfl,rfl⟩)
    | (go_at_call 220;refine C1.out.mono ?_;rintro e w' ⟨rfl,rfl⟩))
   go_ret
   exact ⟨by simp,hB1.trans (hB2.mono hB1.size)⟩
 · go_enter Tryz.func215,Tryz.ntmps215
   go_wp2_with (first
    | (go_at_call 213;refine A1.out.mono ?_;rintro e w' ⟨rfl,rfl⟩)
    | (go_at_call 220;refine C1.out.mono ?_;rintro e w' ⟨rfl,rfl⟩))
   go_ret
   exact ⟨by simp,hB1⟩
abbrev ruleV (k:Int) (f:Value):Value:=.agg #[.int .i64 k,f]
abbrev allRuleV (p:Nat):Value:=.func (.func 220) #[] #[.pointer (some ⟨p,0,none⟩)]
theorem ruleA (k:Int) (w:World) (h:k = 3 ∨ k = 4 ∨ k = 5 ∨ k = 6 ∨ k = 7 ∨ k = 8):Calls Tryz.prog 206 #[.int .i64 k] w fun e w'=>∃ p,e = .returned (ruleV 2 (allRuleV p))∧w'.cell? ⟨p,0,none⟩ = some (.int .i64 2)∧Below w.heap.size w w':=by
 have A:Hid (∀ d:World,Calls Tryz.prog 213 _ d _):=fun d=>allT_any 2 d
 rcases h with rfl | rfl | rfl | rfl | rfl | rfl
 all_goals (
  go_enter Tryz.func206,Tryz.ntmps206
  go_wp2_with (first | (go_at_call 213;refine (A.out _).mono ?_;rintro e w1 ⟨rfl,rfl⟩)))
 all_goals exact bodyPost_ret (v:=ruleV 2 (allRuleV (w.heap.size + 1))) (by simp [results,Tryz.results206,go_sem]) rfl ⟨w.heap.size + 1,rfl,by have:=box_at (w.alloc (.cells #[.int .i64 2,allRuleV (w.heap.size + 1)] 267)) 2;rwa [World.size_alloc] at this,(nwB _ _).alloc (by simp) _⟩
theorem ruleB (k:Int) (w:World) (h:k = 9 ∨ k = 10):Calls Tryz.prog 206 #[.int .i64 k] w (RV (ruleV 1 (.func (.func 214) #[] #[])) w):=by
 rcases h with rfl | rfl
 all_goals (
  go_enter Tryz.func206,Tryz.ntmps206
  go_wp2)
 all_goals exact bodyPost_ret (v:=ruleV 1 (.func (.func 214) #[] #[])) (by simp [results,Tryz.results206,go_sem]) rfl ⟨rfl,nwB _ _⟩
theorem ruleC (k:Int) (w:World) (h:k = 11 ∨ k = 12 ∨ k = 13 ∨ k = 14):Calls Tryz.prog 206 #[.int .i64 k] w (RV (ruleV 1 (.func (.func 215) #[] #[])) w):=by
 rcases h with rfl | rfl | rfl | rfl
 all_goals (
  go_enter Tryz.func206,Tryz.ntmps206
  go_wp2)
 all_goals exact bodyPost_ret (v:=ruleV 1 (.func (.func 215) #[] #[])) (by simp [results,Tryz.results206,go_sem]) rfl ⟨rfl,nwB _ _⟩
theorem ruleD (k:Int) (w:World) (h:k = 15 ∨ k = 16 ∨ k = 17):Calls Tryz.prog 206 #[.int .i64 k] w fun e w'=>∃ p,e = .returned (ruleV 1 (allRuleV p))∧w'.cell? ⟨p,0,none⟩ = some (.int .i64 1)∧Below w.heap.size w w':=by
 have A:Hid (∀ d:World,Calls Tryz.prog 213 _ d _):=fun d=>allT_any 1 d
 rcases h with rfl | rfl | rfl
 all_goals (
  go_enter Tryz.func206,Tryz.ntmps206
  go_wp2_with (first | (go_at_call 213;refine (A.out _).mono ?_;rintro e w1 ⟨rfl,rfl⟩)))
 all_goals exact bodyPost_ret (v:=ruleV 1 (allRuleV (w.heap.size + 1))) (by simp [results,Tryz.results206,go_sem]) rfl ⟨w.heap.size + 1,rfl,by have:=box_at (w.alloc (.cells #[.int .i64 1,allRuleV (w.heap.size + 1)] 267)) 1;rwa [World.size_alloc] at this,(nwB _ _).alloc (by simp) _⟩
def fldK (q:Option Int):Int:=q.getD 0
def fldE (N:Addr) (q:Option Int):Value:=if q.isSome then .nilIface else senV N
def FieldC (nv:Value) (N:Addr) (L:ByteArray→ByteArray→Option Int) (d:World):Prop :=
 ∀ s f,s.size ≤ maxLen→Calls Tryz.prog 204 #[nv,.string s,.string f] d (RV (.tuple #[.int .i64 (fldK (L s f)),fldE N (L s f)]) d)
theorem kind_const (nv:Value) (N T:Addr) (x:X) (w:World) (h1:x.k = 1):KindC nv N T x x.v.k 0 w:=by
 obtain ⟨A,hA,hB,hs,hn⟩:=one_box x w
 obtain ⟨a0,a1,a2,a3,a4,a5,a6⟩:=hn.at0
 have h1':(x.k == 1) = true:=by simp [h1]
 have HB:=hid hB
 clear hB hn h1
 unfold KindC
 go_enter Tryz.func184,Tryz.ntmps184
 go_wp2
 exact bodyPost_ret (v:=.tuple #[.int .i64 x.v.k,.nilIface]) (by simp [results,Tryz.results184,go_sem]) rfl ⟨.nilIface,rfl,.inl ⟨rfl,rfl⟩,HB.out⟩
theorem kind_field (nv:Value) (N _:Addr) (L:ByteArray→ByteArray→Option Int) (x:X) (w:World) (h2:x.k = 2) (hsz:x.s.size ≤ maxLen) (HF:∀ d,Below w.heap.size w d→FieldC nv N L d) :
 Calls Tryz.prog 184 #[nv,x.val] w (RV (.tuple #[.int .i64 (fldK (L x.s x.f)),fldE N (L x.s x.f)]) w):=by
 obtain ⟨A,hA,hB,hs,hn⟩:=one_box x w
 obtain ⟨a0,a1,a2,a3,a4,a5,a6⟩:=hn.at0
 have h1':(x.k == 1) = false:=by simp [h2]
 have h2':(x.k == 2) = true:=by simp [h2]
 have HB:=hid hB
 have C:Hid (Calls Tryz.prog 204 _ A _):=HF A hB x.s x.f hsz
 clear hB hn h2 HF hsz
 generalize L x.s x.f = q at C ⊢
 go_enter Tryz.func184,Tryz.ntmps184
 go_wp2_with (first | (go_at_call 204;refine C.out.mono ?_;rintro e w2 ⟨rfl,hB2⟩))
 exact bodyPost_ret (v:=.tuple #[.int .i64 (fldK q),fldE N q]) (by simp [results,Tryz.results184,go_sem]) rfl ⟨rfl,HB.out.trans (hB2.mono HB.out.size)⟩
theorem kind_err (nv:Value) (N T:Addr) (x:X) (e:Int) (w:World) (h3:3 ≤ x.k) (h0:¬ e = 0) (HP:∀ d,Below w.heap.size w d→Calls Tryz.prog 205 #[nv,x.slice] d fun r w'=>∃ v,r = .returned (.tuple #[.slice none 0 0,v])∧ErrIs N T e v∧Below d.heap.size d w'):KindC nv N T x 0 e w:=by
 obtain ⟨A,hA,hB,hs,hn⟩:=one_box x w
 obtain ⟨a0,a1,a2,a3,a4,a5,a6⟩:=hn.at0
 have h1':(x.k == 1) = false:=by simp;omega
 have h2':(x.k == 2) = false:=by simp;omega
 have HB:=hid hB
 have C:Hid (Calls Tryz.prog 205 _ A _):=HP A hB
 have H0:=hid h0
 clear hB hn h3 HP h0
 unfold KindC
 go_enter Tryz.func184,Tryz.ntmps184
 go_wp2_with (first | (go_at_call 205;refine C.out.mono ?_;rintro r w2 ⟨v,rfl,he,hB2⟩;have HV:=hid he;obtain ⟨t1,u1,rfl⟩:=he.some H0.out;clear he))
 exact bodyPost_ret (v:=.tuple #[.int .i64 0,.iface t1 u1]) (by simp [results,Tryz.results184,go_sem]) rfl ⟨_,rfl,HV.out,HB.out.trans (hB2.mono HB.out.size)⟩
theorem kind_A (nv:Value) (N T:Addr) (x:X) (K:Nat→Int) (w:World) (hS:Sens w N T) (hk:x.k = 3 ∨ x.k = 4 ∨ x.k = 5 ∨ x.k = 6 ∨ x.k = 7 ∨ x.k = 8) (hn:x.n ≤ 1048576) (HP:∀ d,Below w.heap.size w d→Calls Tryz.prog 205 #[nv,x.slice] d fun r w'=>∃ a cap,r = .returned (.tuple #[.slice a x.n cap,.nilIface])∧IsI w' a x.n K∧Below d.heap.size d w') :
 KindC nv N T x (if allB K 2 x.n = true then 2 else 0) (if allB K 2 x.n = true then 0 else 5) w:=by
 obtain ⟨A,hA,hB,hs,hn0⟩:=one_box x w
 have HN:=hid hn0
 obtain ⟨a0,a1,a2,a3,a4,a5,a6⟩:=hn0.at0
 have h1':(x.k == 1) = false:=by simp;omega
 have h2':(x.k == 2) = false:=by simp;omega
 have HB:=hid hB
 have C:Hid (Calls Tryz.prog 205 _ A _):=HP A hB
 have HS:Hid (Sens A N T):=hS.later hB
 have R:Hid (∀ d:World,Calls Tryz.prog 206 _ d _):=fun d=>ruleA x.k d hk
 have M:Hid (∀ (a:Option Addr) (cap p:Nat) (d:World),IsI d a x.n K→d.cell? ⟨p,0,none⟩ = some (.int .i64 2)→Calls Tryz.prog 220 #[.slice a x.n cap,.pointer (some ⟨p,0,none⟩)] d fun e w'=>e = .returned (.bool (allB K 2 x.n))∧w' = d):=fun a cap p d h1 h2=>all1_any a x.n cap p K 2 d h1 hn h2
 clear hB hn0 hk HP hS hn 
 unfold KindC
 generalize allB K 2 x.n = q at M ⊢
 cases q
 · go_enter Tryz.func184,Tryz.ntmps184
   go_wp2_with (first
    | (go_at_call 220;refine (M.out a cap p _ (HI.out.later (bt hB3 ((Below.refl _ w3).alloc (Nat.le_refl _) _))) (cell_new w3 _ _ _ hp)).mono ?_;rintro r w4 ⟨rfl,rfl⟩)
    | (go_at_call 206;refine (R.out _).mono ?_;rintro r w3 ⟨p,rfl,hp,hB3⟩;have gT:=(HS.out.later (bt hB2 hB3)).vT;have gT':=cell_new w3 (.cells #[.int .i64 2,.func (.func 220) #[] #[.pointer (some ⟨p,0,none⟩)]] 267) _ _ gT)
    | (go_at_call 205;refine C.out.mono ?_;rintro r w2 ⟨a,cap,rfl,hI,hB2⟩;have HI:=hid hI;clear hI;obtain ⟨b0,b1,b2,b3,b4,b5,b6⟩:=(HN.out.later hB2).at0))
   go_quiet (fail)
   go_wp2
   exact bodyPost_ret (v:=.tuple #[.int .i64 0,senV T]) (by simp [results,Tryz.results184,go_sem]) rfl ⟨_,rfl,.inr (.inr ⟨rfl,.base T,rfl,rfl⟩),bd (bt HB.out (bt hB2 (bt hB3 (nwB _ _)))) _⟩
 · go_enter Tryz.func184,Tryz.ntmps184
   go_wp2_with (first
    | (go_at_call 220;refine (M.out a cap p _ (HI.out.later (bt hB3 ((Below.refl _ w3).alloc (Nat.le_refl _) _))) (cell_new w3 _ _ _ hp)).mono ?_;rintro r w4 ⟨rfl,rfl⟩)
    | (go_at_call 206;refine (R.out _).mono ?_;rintro r w3 ⟨p,rfl,hp,hB3⟩;have gT:=(HS.out.later (bt hB2 hB3)).vT;have gT':=cell_new w3 (.cells #[.int .i64 2,.func (.func 220) #[] #[.pointer (some ⟨p,0,none⟩)]] 267) _ _ gT)
    | (go_at_call 205;refine C.out.mono ?_;rintro r w2 ⟨a,cap,rfl,hI,hB2⟩;have HI:=hid hI;clear hI;obtain ⟨b0,b1,b2,b3,b4,b5,b6⟩:=(HN.out.later hB2).at0))
   exact bodyPost_ret (v:=.tuple #[.int .i64 2,.nilIface]) (by simp [results,Tryz.results184,go_sem]) rfl ⟨.nilIface,rfl,.inl ⟨rfl,rfl⟩,bt HB.out (bt hB2 (bt hB3 (nwB _ _)))⟩
theorem kind_B (nv:Value) (N T:Addr) (x:X) (K:Nat→Int) (w:World) (hS:Sens w N T) (hk:x.k = 9 ∨ x.k = 10) (h2:x.n = 2) (_:x.n ≤ 1048576) (HP:∀ d,Below w.heap.size w d→Calls Tryz.prog 205 #[nv,x.slice] d fun r w'=>∃ a cap,r = .returned (.tuple #[.slice a x.n cap,.nilIface])∧IsI w' a x.n K∧Below d.heap.size d w') :
 KindC nv N T x (if (decide (K 0 = K 1) || (decide (K 0 = 0) || decide (K 1 = 0))) = true then 1 else 0) (if (decide (K 0 = K 1) || (decide (K 0 = 0) || decide (K 1 = 0))) = true then 0 else 5) w:=by
 obtain ⟨A,hA,hB,hs,hn0⟩:=one_box x w
 have HN:=hid hn0
 obtain ⟨a0,a1,a2,a3,a4,a5,a6⟩:=hn0.at0
 have h1':(x.k == 1) = false:=by simp;omega
 have h2':(x.k == 2) = false:=by simp;omega
 have HB:=hid hB
 have C:Hid (Calls Tryz.prog 205 _ A _):=HP A hB
 have HS:Hid (Sens A N T):=hS.later hB
 have R:Hid (∀ d:World,Calls Tryz.prog 206 _ d _):=fun d=>ruleB x.k d hk
 have M:Hid (∀ (a:Option Addr) (cap:Nat) (d:World),IsI d a x.n K→Calls Tryz.prog 214 #[.slice a x.n cap] d (RV (.bool ((decide (K 0 = K 1) || (decide (K 0 = 0) || decide (K 1 = 0))))) d)):=fun a cap d h1=>by rw [h2] at h1 ⊢;exact alike_any a cap K d h1
 clear hB hn0 hk HP hS h2
 unfold KindC
 generalize (decide (K 0 = K 1) || (decide (K 0 = 0) || decide (K 1 = 0))) = q at M ⊢
 cases q
 · go_enter Tryz.func184,Tryz.ntmps184
   go_wp2_with (first
    | (go_at_call 214;refine (M.out a cap _ (HI.out.later (bt hB3 ((Below.refl _ w3).alloc (Nat.le_refl _) _)))).mono ?_;rintro r w4 ⟨rfl,hB4⟩;have gR:=cell_later (show (w3.alloc (.cells #[.int .i64 1,.func (.func 214) #[] #[]] 267)).cell? ⟨w3.heap.size,0,none⟩ = some (.int .i64 1) by rw [World.cell?_alloc_at _ _ _ _ rfl];rfl) hB4;have gT4:=cell_later gT' hB4)
    | (go_at_call 206;refine (R.out _).mono ?_;rintro r w3 ⟨rfl,hB3⟩;have gT:=(HS.out.later (bt hB2 hB3)).vT;have gT':=cell_new w3 (.cells #[.int .i64 1,.func (.func 214) #[] #[]] 267) _ _ gT)
    | (go_at_call 205;refine C.out.mono ?_;rintro r w2 ⟨a,cap,rfl,hI,hB2⟩;have HI:=hid hI;clear hI;obtain ⟨b0,b1,b2,b3,b4,b5,b6⟩:=(HN.out.later hB2).at0))
   go_quiet (fail)
   go_wp2
   exact bodyPost_ret (v:=.tuple #[.int .i64 0,senV T]) (by simp [results,Tryz.results184,go_sem]) rfl ⟨_,rfl,.inr (.inr ⟨rfl,.base T,rfl,rfl⟩),bd (bt HB.out (bt hB2 (bt hB3 ((nwB _ _).trans (hB4.mono (by simp)))))) _⟩
 · go_enter Tryz.func184,Tryz.ntmps184
   go_wp2_with (first
    | (go_at_call 214;refine (M.out a cap _ (HI.out.later (bt hB3 ((Below.refl _ w3).alloc (Nat.le_refl _) _)))).mono ?_;rintro r w4 ⟨rfl,hB4⟩;have gR:=cell_later (show (w3.alloc (.cells #[.int .i64 1,.func (.func 214) #[] #[]] 267)).cell? ⟨w3.heap.size,0,none⟩ = some (.int .i64 1) by rw [World.cell?_alloc_at _ _ _ _ rfl];rfl) hB4;have gT4:=cell_later gT' hB4)
    | (go_at_call 206;refine (R.out _).mono ?_;rintro r w3 ⟨rfl,hB3⟩;have gT:=(HS.out.later (bt hB2 hB3)).vT;have gT':=cell_new w3 (.cells #[.int .i64 1,.func (.func 214) #[] #[]] 267) _ _ gT)
    | (go_at_call 205;refine C.out.mono ?_;rintro r w2 ⟨a,cap,rfl,hI,hB2⟩;have HI:=hid hI;clear hI;obtain ⟨b0,b1,b2,b3,b4,b5,b6⟩:=(HN.out.later hB2).at0))
   exact bodyPost_ret (v:=.tuple #[.int .i64 1,.nilIface]) (by simp [results,Tryz.results184,go_sem]) rfl ⟨.nilIface,rfl,.inl ⟨rfl,rfl⟩,bt HB.out (bt hB2 (bt hB3 ((nwB _ _).trans (hB4.mono (by simp)))))⟩
theorem kind_C (nv:Value) (N T:Addr) (x:X) (K:Nat→Int) (w:World) (hS:Sens w N T) (hk:x.k = 11 ∨ x.k = 12 ∨ x.k = 13 ∨ x.k = 14) (hn:x.n ≤ 1048576) (HP:∀ d,Below w.heap.size w d→Calls Tryz.prog 205 #[nv,x.slice] d fun r w'=>∃ a cap,r = .returned (.tuple #[.slice a x.n cap,.nilIface])∧IsI w' a x.n K∧Below d.heap.size d w') :
 KindC nv N T x (if (allB K 2 x.n || allB K 3 x.n) = true then 1 else 0) (if (allB K 2 x.n || allB K 3 x.n) = true then 0 else 5) w:=by
 obtain ⟨A,hA,hB,hs,hn0⟩:=one_box x w
 have HN:=hid hn0
 obtain ⟨a0,a1,a2,a3,a4,a5,a6⟩:=hn0.at0
 have h1':(x.k == 1) = false:=by simp;omega
 have h2':(x.k == 2) = false:=by simp;omega
 have HB:=hid hB
 have C:Hid (Calls Tryz.prog 205 _ A _):=HP A hB
 have HS:Hid (Sens A N T):=hS.later hB
 have R:Hid (∀ d:World,Calls Tryz.prog 206 _ d _):=fun d=>ruleC x.k d hk
 have M:Hid (∀ (a:Option Addr) (cap:Nat) (d:World),IsI d a x.n K→Calls Tryz.prog 215 #[.slice a x.n cap] d (RV (.bool ((allB K 2 x.n || allB K 3 x.n))) d)):=fun a cap d h1=>by exact ordered_any a x.n cap K d h1 hn
 clear hB hn0 hk HP hS hn 
 unfold KindC
 generalize (allB K 2 x.n || allB K 3 x.n) = q at M ⊢
 cases q
 · go_enter Tryz.func184,Tryz.ntmps184
   go_wp2_with (first
    | (go_at_call 215;refine (M.out a cap _ (HI.out.later (bt hB3 ((Below.refl _ w3).alloc (Nat.le_refl _) _)))).mono ?_;rintro r w4 ⟨rfl,hB4⟩;have gR:=cell_later (show (w3.alloc (.cells #[.int .i64 1,.func (.func 215) #[] #[]] 267)).cell? ⟨w3.heap.size,0,none⟩ = some (.int .i64 1) by rw [World.cell?_alloc_at _ _ _ _ rfl];rfl) hB4;have gT4:=cell_later gT' hB4)
    | (go_at_call 206;refine (R.out _).mono ?_;rintro r w3 ⟨rfl,hB3⟩;have gT:=(HS.out.later (bt hB2 hB3)).vT;have gT':=cell_new w3 (.cells #[.int .i64 1,.func (.func 215) #[] #[]] 267) _ _ gT)
    | (go_at_call 205;refine C.out.mono ?_;rintro r w2 ⟨a,cap,rfl,hI,hB2⟩;have HI:=hid hI;clear hI;obtain ⟨b0,b1,b2,b3,b4,b5,b6⟩:=(HN.out.later hB2).at0))
   go_quiet (fail)
   go_wp2
   exact bodyPost_ret (v:=.tuple #[.int .i64 0,senV T]) (by simp [results,Tryz.results184,go_sem]) rfl ⟨_,rfl,.inr (.inr ⟨rfl,.base T,rfl,rfl⟩),bd (bt HB.out (bt hB2 (bt hB3 ((nwB _ _).trans (hB4.mono (by simp)))))) _⟩
 · go_enter Tryz.func184,Tryz.ntmps184
   go_wp2_with (first
    | (go_at_call 215;refine (M.out a cap _ (HI.out.later (bt hB3 ((Below.refl _ w3).alloc (Nat.le_refl _) _)))).mono ?_;rintro r w4 ⟨rfl,hB4⟩;have gR:=cell_later (show (w3.alloc (.cells #[.int .i64 1,.func (.func 215) #[] #[]] 267)).cell? ⟨w3.heap.size,0,none⟩ = some (.int .i64 1) by rw [World.cell?_alloc_at _ _ _ _ rfl];rfl) hB4;have gT4:=cell_later gT' hB4)
    | (go_at_call 206;refine (R.out _).mono ?_;rintro r w3 ⟨rfl,hB3⟩;have gT:=(HS.out.later (bt hB2 hB3)).vT;have gT':=cell_new w3 (.cells #[.int .i64 1,.func (.func 215) #[] #[]] 267) _ _ gT)
    | (go_at_call 205;refine C.out.mono ?_;rintro r w2 ⟨a,cap,rfl,hI,hB2⟩;have HI:=hid hI;clear hI;obtain ⟨b0,b1,b2,b3,b4,b5,b6⟩:=(HN.out.later hB2).at0))
   exact bodyPost_ret (v:=.tuple #[.int .i64 1,.nilIface]) (by simp [results,Tryz.results184,go_sem]) rfl ⟨.nilIface,rfl,.inl ⟨rfl,rfl⟩,bt HB.out (bt hB2 (bt hB3 ((nwB _ _).trans (hB4.mono (by simp)))))⟩
theorem kind_D (nv:Value) (N T:Addr) (x:X) (K:Nat→Int) (w:World) (hS:Sens w N T) (hk:x.k = 15 ∨ x.k = 16 ∨ x.k = 17) (hn:x.n ≤ 1048576) (HP:∀ d,Below w.heap.size w d→Calls Tryz.prog 205 #[nv,x.slice] d fun r w'=>∃ a cap,r = .returned (.tuple #[.slice a x.n cap,.nilIface])∧IsI w' a x.n K∧Below d.heap.size d w') :
 KindC nv N T x (if allB K 1 x.n = true then 1 else 0) (if allB K 1 x.n = true then 0 else 5) w:=by
 obtain ⟨A,hA,hB,hs,hn0⟩:=one_box x w
 have HN:=hid hn0
 obtain ⟨a0,a1,a2,a3,a4,a5,a6⟩:=hn0.at0
 have h1':(x.k == 1) = false:=by simp;omega
 have h2':(x.k == 2) = false:=by simp;omega
 have HB:=hid hB
 have C:Hid (Calls Tryz.prog 205 _ A _):=HP A hB
 have HS:Hid (Sens A N T):=hS.later hB
 have R:Hid (∀ d:World,Calls Tryz.prog 206 _ d _):=fun d=>ruleD x.k d hk
 have M:Hid (∀ (a:Option Addr) (cap p:Nat) (d:World),IsI d a x.n K→d.cell? ⟨p,0,none⟩ = some (.int .i64 1)→Calls Tryz.prog 220 #[.slice a x.n cap,.pointer (some ⟨p,0,none⟩)] d fun e w'=>e = .returned (.bool (allB K 1 x.n))∧w' = d):=fun a cap p d h1 h2=>all1_any a x.n cap p K 1 d h1 hn h2
 clear hB hn0 hk HP hS hn 
 unfold KindC
 generalize allB K 1 x.n = q at M ⊢
 cases q
 · go_enter Tryz.func184,Tryz.ntmps184
   go_wp2_with (first
    | (go_at_call 220;refine (M.out a cap p _ (HI.out.later (bt hB3 ((Below.refl _ w3).alloc (Nat.le_refl _) _))) (cell_new w3 _ _ _ hp)).mono ?_;rintro r w4 ⟨rfl,rfl⟩)
    | (go_at_call 206;refine (R.out _).mono ?_;rintro r w3 ⟨p,rfl,hp,hB3⟩;have gT:=(HS.out.later (bt hB2 hB3)).vT;have gT':=cell_new w3 (.cells #[.int .i64 1,.func (.func 220) #[] #[.pointer (some ⟨p,0,none⟩)]] 267) _ _ gT)
    | (go_at_call 205;refine C.out.mono ?_;rintro r w2 ⟨a,cap,rfl,hI,hB2⟩;have HI:=hid hI;clear hI;obtain ⟨b0,b1,b2,b3,b4,b5,b6⟩:=(HN.out.later hB2).at0))
   go_quiet (fail)
   go_wp2
   exact bodyPost_ret (v:=.tuple #[.int .i64 0,senV T]) (by simp [results,Tryz.results184,go_sem]) rfl ⟨_,rfl,.inr (.inr ⟨rfl,.base T,rfl,rfl⟩),bd (bt HB.out (bt hB2 (bt hB3 (nwB _ _)))) _⟩
 · go_enter Tryz.func184,Tryz.ntmps184
   go_wp2_with (first
    | (go_at_call 220;refine (M.out a cap p _ (HI.out.later (bt hB3 ((Below.refl _ w3).alloc (Nat.le_refl _) _))) (cell_new w3 _ _ _ hp)).mono ?_;rintro r w4 ⟨rfl,rfl⟩)
    | (go_at_call 206;refine (R.out _).mono ?_;rintro r w3 ⟨p,rfl,hp,hB3⟩;have gT:=(HS.out.later (bt hB2 hB3)).vT;have gT':=cell_new w3 (.cells #[.int .i64 1,.func (.func 220) #[] #[.pointer (some ⟨p,0,none⟩)]] 267) _ _ gT)
    | (go_at_call 205;refine C.out.mono ?_;rintro r w2 ⟨a,cap,rfl,hI,hB2⟩;have HI:=hid hI;clear hI;obtain ⟨b0,b1,b2,b3,b4,b5,b6⟩:=(HN.out.later hB2).at0))
   exact bodyPost_ret (v:=.tuple #[.int .i64 1,.nilIface]) (by simp [results,Tryz.results184,go_sem]) rfl ⟨.nilIface,rfl,.inl ⟨rfl,rfl⟩,bt HB.out (bt hB2 (bt hB3 (nwB _ _)))⟩
theorem X.n_lt (x:X):x.n < x.size:=by
 have key:∀ n,n ≤ sumN (fun i=>(x.c i).size) n:=by
  intro n
  induction n with
  | zero=>exact Nat.le_refl _
  | succ n ih =>
    have:=(x.c n).size_pos
    simp only [sumN]
    omega
 have:=key x.n
 rw [x.size_eq]
 omega
theorem name_max {s:ByteArray} (h:nameB s = true):s.size ≤ maxLen:=by
 unfold nameB fitsB at h
 simp at h
 unfold maxLen
 omega
theorem kindT_any (nv:Value) (N T:Addr) (L:ByteArray→ByteArray→Option Int):∀ (x:X) (w:World),IsX w x→TreeR x→x.size ≤ 1048576→Sens w N T→(∀ d,Below w.heap.size w d→FieldC nv N L d)→KindC nv N T x (kindE L x).1 (kindE L x).2 w:=by
 refine X.ind fun x ih w hX hR hsz hS HF=>?_
 obtain ⟨hr,hp⟩:=(treeR_eq x).1 hR
 have hn:x.n ≤ 1048576:=by have:=x.n_lt;omega
 have HK:∀ i,i < x.n→∀ d,Below w.heap.size w d→KindC nv N T (x.c i) (kindE L (x.c i)).1 (kindE L (x.c i)).2 d:=fun i hi d hd=>by
  obtain ⟨_,_,_,_,hx⟩:=hX.part hi
  exact ih i hi d (hx.later hd) (hp i hi) (by have:=x.size_part i hi;omega) (hS.later hd) fun d' h'=>HF d' (bt hd h')
 have rest:3 ≤ x.k→x.k ≤ 17→(x.k = 9 ∨ x.k = 10→x.n = 2)→KindC nv N T x (kindE L x).1 (kindE L x).2 w:=by
  intro h3 h17 h2
  rcases errs_or (fun i=>(kindE L (x.c i)).2) x.n with ⟨he,h0⟩ | ⟨i,hi,hne,he,h0⟩
  · have HP:=fun d (hd:Below w.heap.size w d)=>parts_ok nv N T x (fun i=>(kindE L (x.c i)).1) (fun i=>(kindE L (x.c i)).2) d (hX.later hd) hn (fun i hi d' h'=>HK i hi d' (bt hd h')) h0
    rw [kindE_parts h3 he]
    have fin:∀ (q:Bool) (o:Int),KindC nv N T x (if q = true then o else 0) (if q = true then 0 else 5) w→KindC nv N T x (if q = true then (o,(0:Int)) else (0,5)).1 (if q = true then (o,(0:Int)) else (0,5)).2 w:=fun q o h=>by cases q <;> exact h
    refine fin _ _ ?_
    by_cases hA:x.k ≤ 8
    · rw [show outK x.k = 2 by simp [outK];omega,show fineK x.k x.n (fun i=>(kindE L (x.c i)).1) = allB (fun i=>(kindE L (x.c i)).1) 2 x.n by rw [fineK,if_pos ⟨h3,hA⟩]]
      exact kind_A nv N T x _ w hS (by omega) hn HP
    · have ho:outK x.k = 1:=by rw [outK,if_neg (by omega)]
      rw [ho]
      by_cases hB:x.k ≤ 10
      · rw [show fineK x.k x.n (fun i=>(kindE L (x.c i)).1) = (decide ((kindE L (x.c 0)).1 = (kindE L (x.c 1)).1) || (decide ((kindE L (x.c 0)).1 = 0) || decide ((kindE L (x.c 1)).1 = 0))) by rw [fineK,if_neg (by omega),if_pos (by omega)]]
        exact kind_B nv N T x _ w hS (by omega) (h2 (by omega)) hn HP
      · by_cases hC:x.k ≤ 14
        · rw [show fineK x.k x.n (fun i=>(kindE L (x.c i)).1) = (allB (fun i=>(kindE L (x.c i)).1) 2 x.n || allB (fun i=>(kindE L (x.c i)).1) 3 x.n) by rw [fineK,if_neg (by omega),if_neg (by omega),if_pos (by omega)]]
          exact kind_C nv N T x _ w hS (by omega) hn HP
        · rw [show fineK x.k x.n (fun i=>(kindE L (x.c i)).1) = allB (fun i=>(kindE L (x.c i)).1) 1 x.n by rw [fineK,if_neg (by omega),if_neg (by omega),if_neg (by omega)]]
          exact kind_D nv N T x _ w hS (by omega) hn HP
  · rw [kindE_err h3 (by show ¬ lexN _ _ = 0;rw [he];exact hne)]
    show KindC nv N T x 0 (lexN _ _) w
    rw [he]
    exact kind_err nv N T x _ w h3 hne fun d hd=>parts_err nv N T x (fun i=>(kindE L (x.c i)).1) (fun i=>(kindE L (x.c i)).2) i d (hX.later hd) hn (fun i hi d' h'=>HK i hi d' (bt hd h')) hi hne h0
 rcases hr.2.2 with ⟨hk,hn0,_⟩ | ⟨hk,hn0,hnm,_⟩ | ⟨hk,hn0⟩ | ⟨h4,h14,hn0⟩ | ⟨hk,_,_⟩
 · rw [kindE_const hk hn0]
   exact kind_const nv N T x w hk
 · rw [kindE_field hk hn0]
   refine (kind_field nv N T L x w hk (name_max hnm) HF).mono ?_
   rintro e w' ⟨rfl,hB⟩
   cases L x.s x.f with
   | none=>exact ⟨_,rfl,.inr (.inl ⟨rfl,.base N,rfl,rfl⟩),hB⟩
   | some q=>exact ⟨_,rfl,.inl ⟨rfl,rfl⟩,hB⟩
 · exact rest (by omega) (by omega) (by omega)
 · exact rest (by omega) (by omega) (fun _=>hn0)
 · exact rest (by omega) (by omega) (by omega)
open Go.Maps Go.WideMaps
def elemV (v:Value):Option (DataW Value × List MemPlace):=some (.held v,[])
abbrev schZ:Value:=schV ⟨#[]⟩ (.slice none 0 0)
structure FirstS (V:Nat→ByteArray) (U:Nat→Value) (n i:Nat) (D:DataW Value):Prop where
 hit:∀ j,i ≤ j→j < n→(∀ j',i ≤ j'→j' < j→V j' ≠ V j)→Maps.has D (keyS (V j)) = true∧D.atKey (keyS (V j)) (.held schZ) = .held (U j)
 miss:∀ s,(∀ j,i ≤ j→j < n→V j ≠ s)→Maps.has D (keyS s) = false∧D.atKey (keyS s) (.held schZ) = .held schZ
theorem firstS_none (V:Nat→ByteArray) (U:Nat→Value) (n:Nat):FirstS V U n n (.map []):=⟨fun j h1 h2=>by omega,fun _ _=>⟨rfl,rfl⟩⟩
theorem FirstS.more {V:Nat→ByteArray} {U:Nat→Value} {n i:Nat} {D:DataW Value} (h:FirstS V U n (i + 1) D) (hm:IsMap D) (hi:i < n):FirstS V U n i (D.put (keyS (V i)) (.held (U i))):=by
 refine ⟨fun j h1 h2 h3=>?_,fun s hs=>?_⟩
 · by_cases e:j = i
   · subst e
     exact ⟨has_put_same hm (by simp [WideAt.IsKeyLit]) _,atKey_put_same hm (by simp [WideAt.IsKeyLit]) _ _⟩
   · have hne:V i ≠ V j:=h3 i (Nat.le_refl _) (by omega)
     obtain ⟨q1,q2⟩:=h.hit j (by omega) h2 fun j' h4 h5=>h3 j' (by omega) h5
     rw [has_put_other (keyS_ne fun q=>hne q.symm),atKey_put_other (keyS_ne fun q=>hne q.symm)]
     exact ⟨q1,q2⟩
 · have hne:V i ≠ s:=hs i (Nat.le_refl _) hi
   rw [has_put_other (keyS_ne fun q=>hne q.symm),atKey_put_other (keyS_ne fun q=>hne q.symm)]
   exact h.miss s fun j h1 h2=>hs j (by omega) h2
def atV (V:Nat→ByteArray) (U:Nat→Value) (n:Nat) (s:ByteArray):Value:=match idx V s n with | some i=>U i | none=>schZ
theorem FirstS.at {V:Nat→ByteArray} {U:Nat→Value} {n:Nat} {D:DataW Value} (h:FirstS V U n 0 D) (s:ByteArray):Maps.has D (keyS s) = (idx V s n).isSome∧D.atKey (keyS s) (.held schZ) = .held (atV V U n s):=by
 unfold atV
 cases e:idx V s n with
 | some i =>
   obtain ⟨h1,rfl,h3⟩:=idx_some V s n i e
   obtain ⟨q1,q2⟩:=h.hit i (Nat.zero_le _) h1 fun j' _ h5=>h3 j' h5
   exact ⟨q1,q2⟩
 | none=>exact h.miss s fun j _ hj=>idx_none V s n e j hj
structure NamesIn (w:World) (p m n:Nat) (V:Nat→ByteArray) (S:Nat→Sch):Prop where
 box:w.cell? ⟨p,0,none⟩ = some (.map (some m))
 map:∃ D,w.ownsMap Tryz.prog 9 elemV m n D∧FirstS V (fun j=>schV (S j).nm (S j).v) n 0 D
 flds:∀ j,j < n→Flds w (S j).a (S j).l (S j).fn (S j).fk∧(S j).l ≤ 16
theorem NamesIn.later {w w':World} {p m n:Nat} {V:Nat→ByteArray} {S:Nat→Sch} (h:NamesIn w p m n V S) (hB:Below w.heap.size w w'):NamesIn w' p m n V S:=by
 obtain ⟨D,ho,hf⟩:=h.map
 refine ⟨cell_later h.box hB,⟨D,?_,hf⟩,fun j hj=>⟨(h.flds j hj).1.later hB,(h.flds j hj).2⟩⟩
 have hlt:=ho.lt
 obtain ⟨es,clock,h1,h2⟩:=ho
 exact ⟨es,clock,(hB.block m hlt).trans h1,h2⟩
theorem zeroS (w:World):(zeroValue 115).run Tryz.prog w = .ok schZ w:=by kernel_rfl
theorem NamesIn.look {w:World} {p m n:Nat} {V:Nat→ByteArray} {S:Nat→Sch} (h:NamesIn w p m n V S) (s:ByteArray) (hs:s.size ≤ maxLen) :
 (Instr.lookup 210 (.map (some m)) (.string s) false).run Tryz.prog w = .ok (atV V (fun j=>schV (S j).nm (S j).v) n s) w:=by
 obtain ⟨D,ho,hf⟩:=h.map
 obtain ⟨v,ps,hr,hv⟩:=ho.lookup str_law Tryz.underlying210 (zeroS w) (show elemV schZ = some (.held schZ,[]) from rfl) (keyOf_string_mk Tryz.underlying9 hs)
 rw [(hf.at s).2] at hv
 simp only [elemV,Option.some.injEq,Prod.mk.injEq,DataW.held.injEq] at hv
 rw [hr,hv.1]
theorem NamesIn.look_ok {w:World} {p m n:Nat} {V:Nat→ByteArray} {S:Nat→Sch} (h:NamesIn w p m n V S) (s:ByteArray) (hs:s.size ≤ maxLen) :
 (Instr.lookup 210 (.map (some m)) (.string s) true).run Tryz.prog w = .ok (.tuple #[atV V (fun j=>schV (S j).nm (S j).v) n s,.bool (idx V s n).isSome]) w:=by
 obtain ⟨D,ho,hf⟩:=h.map
 obtain ⟨v,ps,hr,hv⟩:=ho.look_ok str_law Tryz.underlying210 (zeroS w) (show elemV schZ = some (.held schZ,[]) from rfl) (keyOf_string_mk Tryz.underlying9 hs)
 rw [(hf.at s).2] at hv
 simp only [elemV,Option.some.injEq,Prod.mk.injEq,DataW.held.injEq] at hv
 rw [hr,hv.1,(hf.at s).1]
end Go.Proofs.YtkfpgkohkhhlhaaGreatDoor
