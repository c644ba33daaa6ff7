/- Texts that the last one stands on. -/
import Derived.Test.YtkfpgkohkhhlhaaGreatDoorHNamesMath
import Derived.Deep.DeepCutAuto
import Derived.BigQuiet
set_option maxRecDepth 100000
set_option maxHeartbeats 4000000
namespace Go.Proofs.YtkfpgkohkhhlhaaGreatDoor
open Go.RowKit
abbrev fldV (s:ByteArray) (k:Int):Value:=.agg #[.string s,.int .i64 k]
abbrev fldO (s:ByteArray) (k:Int):Obj:=.cells #[.string s,.int .i64 k] 112
abbrev schV (s:ByteArray) (v:Value):Value:=.agg #[.string s,v]
abbrev schO (s:ByteArray) (v:Value):Obj:=.cells #[.string s,v] 115
def Row2 (w:World) (a:Option Addr) (n:Nat) (Nm:Nat→ByteArray) (V:Nat→Value):Prop :=
 0 < n→∃ b off,a=some ⟨b,off,none⟩∧∀ j,j < n→(w.cell? ⟨b,off+j * 2,none⟩=some (.string (Nm j))∧w.cell? ⟨b,off+j * 2+1,none⟩=some (V j))∧(Nm j).size≤maxLen
theorem Row2.later {w w':World} {a:Option Addr} {n:Nat} {Nm:Nat→ByteArray} {V:Nat→Value} (h:Row2 w a n Nm V) (hB:Below w.heap.size w w'):Row2 w' a n Nm V:=by
 intro h0
 obtain ⟨b,off,e,hc⟩:=h h0
 exact ⟨b,off,e,fun j hj=>⟨⟨cell_later (hc j hj).1.1 hB,cell_later (hc j hj).1.2 hB⟩,(hc j hj).2⟩⟩
abbrev Flds (w:World) (a:Option Addr) (n:Nat) (Nm:Nat→ByteArray) (K:Nat→Int):Prop:=Row2 w a n Nm fun j=>.int .i64 (K j)
theorem cell_new (w:World) (o:Obj) (p:Addr) (v:Value) (h:w.cell? p=some v):(w.alloc o).cell? p=some v:=cell_later h (nwB _ _)
theorem bt {w w1 w2:World} (h:Below w.heap.size w w1) (g:Below w1.heap.size w1 w2):Below w.heap.size w w2:=h.trans (g.mono h.size)
theorem first_or (Nm:Nat→ByteArray) (s:ByteArray):∀ n,(∃ i,i < n∧Nm i=s∧∀ j,j < i→¬ Nm j=s) ∨ ∀ j,j < n→¬ Nm j=s
 | 0=>.inr fun j hj=>by omega
 | n+1=>by
   rcases first_or Nm s n with ⟨i,h1,h2⟩ | h
   · exact .inl ⟨i,by omega,h2⟩
   · by_cases e:Nm n=s
     · exact .inl ⟨n,by omega,e,h⟩
     · exact .inr fun j hj=>if hn:j=n then hn ▸ e else h j (by omega)
def kindB (k:Int):Bool:=decide (1≤k) && decide (k≤3)
def rightF (s:ByteArray) (k:Int):Bool:=nameB s && kindB k
def seenB (Nm:Nat→ByteArray) (s:ByteArray):Nat→Bool
 | 0=>false
 | k+1=>seenB Nm s k || decide (Nm k=s)
def dupB (Nm:Nat→ByteArray):Nat→Bool
 | 0=>false
 | k+1=>dupB Nm k || seenB Nm (Nm k) k
def allR (Nm:Nat→ByteArray) (K:Nat→Int):Nat→Bool
 | 0=>true
 | k+1=>allR Nm K k && rightF (Nm k) (K k)
theorem seenB_iff (Nm:Nat→ByteArray) (s:ByteArray):∀ k,seenB Nm s k=true ↔ ∃ i,i < k∧Nm i=s
 | 0=>by simp [seenB]
 | k+1=>by
   simp only [seenB,Bool.or_eq_true,decide_eq_true_eq,seenB_iff Nm s k]
   constructor
   · rintro (⟨i,h1,h2⟩ | h)
     · exact ⟨i,by omega,h2⟩
     · exact ⟨k,by omega,h⟩
   · rintro ⟨i,h1,h2⟩
     by_cases e:i=k
     · exact .inr (e ▸ h2)
     · exact .inl ⟨i,by omega,h2⟩
theorem allR_at (Nm:Nat→ByteArray) (K:Nat→Int):∀ n,allR Nm K n=true→∀ j,j < n→rightF (Nm j) (K j)=true
 | 0,_,j,h=>by omega
 | n+1,h,j,hj=>by
   simp only [allR,Bool.and_eq_true] at h
   by_cases e:j=n
   · exact e ▸ h.2
   · exact allR_at Nm K n h.1 j (by omega)
theorem allR_not (Nm:Nat→ByteArray) (K:Nat→Int) (n j:Nat) (hj:j < n) (h:rightF (Nm j) (K j)=false):allR Nm K n=false:=by
 cases e:allR Nm K n with
 | false=>rfl
 | true=>have:=allR_at Nm K n e j hj;rw [h] at this;cases this
def chkZ (S:ByteArray) (n:Nat) (Nm:Nat→ByteArray) (K:Nat→Int):Int :=
 if 16 < n then 2 else if nameB S=false then 1 else if dupB Nm n=true then 1 else if allR Nm K n=true then 0 else 1
theorem chkZ_ok {S:ByteArray} {n:Nat} {Nm:Nat→ByteArray} {K:Nat→Int} (h:chkZ S n Nm K=0):n≤16∧nameB S=true∧dupB Nm n=false∧allR Nm K n=true:=by
 unfold chkZ at h
 split at h
 · omega
 · split at h
   · omega
   · split at h
     · omega
     · split at h
       · rename_i h1 h2 h3 h4
         exact ⟨by omega,by simpa using h2,by simpa using h3,h4⟩
       · omega
open Go.Maps Go.WideMaps
structure Seen (Nm:Nat→ByteArray) (k:Nat) (D:DataW Unit):Prop where
 has:∀ s,Maps.has D (keyS s)=seenB Nm s k
 le:Maps.size D≤k
 lt:Maps.size D < k ↔ dupB Nm k=true
theorem seen_none (Nm:Nat→ByteArray):Seen Nm 0 (.map []):=⟨fun _=>rfl,Nat.le_refl _,by simp [dupB]⟩
theorem Seen.more {Nm:Nat→ByteArray} {k:Nat} {D:DataW Unit} (h:Seen Nm k D) (hm:IsMap D) (ht:Tidy D) (d:DataW Unit):Seen Nm (k+1) (D.put (keyS (Nm k)) d):=by
 have e:=size_put (k:=keyS (Nm k)) ht d
 rw [h.has] at e
 refine ⟨fun s=>?_,?_,?_⟩
 · by_cases hs:Nm k=s
   · subst hs
     rw [has_put_same hm (by simp [WideAt.IsKeyLit])]
     simp [seenB]
   · rw [has_put_other (keyS_ne fun q=>hs q.symm),h.has]
     simp [seenB,hs]
 · rw [e]
   have:=h.le
   split <;> omega
 · rw [e]
   have h1:=h.le
   have h2:=h.lt
   simp only [dupB,Bool.or_eq_true]
   cases hs:seenB Nm (Nm k) k with
   | true=>simp;omega
   | false=>simp [← h2]
theorem Seen.dup {Nm:Nat→ByteArray} {k:Nat} {D:DataW Unit} (h:Seen Nm k D):decide (Maps.size D < k)=dupB Nm k:=by
 rw [Bool.eq_iff_iff,decide_eq_true_eq,← h.lt]
theorem check1_any (a:Option Addr) (n cap i p:Nat) (Nm:Nat→ByteArray) (V:Nat→Value) (w:World) (H:Row2 w a n Nm V) (hi:i < n) (hn:n≤9223372036854775807) (hp:w.cell? ⟨p,1,none⟩=some (.slice a n cap)) :
 Calls Tryz.prog 175 #[.int .i64 i,.pointer (some ⟨p,0,none⟩)] w fun e w'=>e=.returned (.string (Nm i))∧w'=w:=by
 obtain ⟨b,off,rfl,hc⟩:=H (by omega)
 have f0:=(hc i hi).1.1
 clear H hc
 go_enter Tryz.func175,Tryz.ntmps175
 go_wp2
 go_ret
 exact ⟨rfl,rfl⟩
theorem twice_check (a:Option Addr) (n cap p:Nat) (Nm:Nat→ByteArray) (V:Nat→Value) (w:World) (H:Row2 w a n Nm V) (hn:n≤16) (hp:w.cell? ⟨p,1,none⟩=some (.slice a n cap)) :
 Calls Tryz.prog 147 #[.int .i64 n,.func (.func 175) #[] #[.pointer (some ⟨p,0,none⟩)]] w (RV (.bool (dupB Nm n)) w):=by
 have hmm:=@run_makeMap Tryz.prog
 have HC:=hid H
 have HP:=hid hp
 clear H hp
 go_enter Tryz.func147,Tryz.ntmps147
 go_wp2
 go_loopw [9] (fun v wr=>∃ k:Nat,k≤n∧v=.int .i64 k∧(∃ D,wr.ownsMap Tryz.prog 9 (plainElem (H:=Unit) Tryz.prog 3) w.heap.size k D∧Hid (Seen Nm k D))∧Below w.heap.size w wr) (fun v _=>n - (intOf v).toNat)
 case atStart=>exact ⟨0,Nat.zero_le _,rfl,⟨_,World.ownsMap_made _ _ _ _,seen_none Nm⟩,nwB _ _⟩
 case round =>
  obtain ⟨k,hk,rfl,⟨D,hown,HS⟩,hB⟩:=hrel
  by_cases hkn:k < n
  · have C:Hid (Calls Tryz.prog 175 _ wr _):=check1_any a n cap k p Nm V wr (HC.out.later hB) hkn (by omega) (cell_later HP.out hB)
    have hsz:(Nm k).size≤maxLen:=by
     obtain ⟨_,_,_,hc⟩:=HC.out (by omega)
     exact (hc k hkn).2
    have HZ:=hid hsz
    have hkey:keyOf Tryz.prog 9 (.string (Nm k))=some (keyS (Nm k)):=keyOf_string_mk Tryz.underlying9 hsz
    clear hsz
    go_wp2_with (first
     | (go_at_call 175;refine C.out.mono ?_;rintro e w1 ⟨rfl,hw1⟩;replace hw1:=hw1.symm;subst hw1)
     | (at_mapUpdate;refine wpList_mapUpdate_own _ rfl _ _ _ 80 rfl 9 3 str_law Tryz.underlying80 (plainElem (H:=Unit) Tryz.prog 3) w.heap.size k _ rfl hown (by unfold maxLen;omega) _ _ _ rfl rfl hkey _ [] (plainElem_int Tryz.underlying3 (WalkArith.wf_i64 (by omega))) ?_;intro w1 hown1 hgrow1)
     | go_in)
    go_roundw
    case rel=>exact ⟨k+1,by omega,by go_num,⟨_,hown1,HS.out.more hown.isMap (hown.tidy str_law) _⟩,hB.grown hgrow1 hB.size (fun j hj=>by cases hj;exact Nat.le_refl _)⟩
    case measure=>simp [intOf];omega
  · obtain rfl:k=n:=by omega
    go_wp2_with (first
     | (at_len;refine wpList_len_own _ rfl _ 80 rfl 9 3 Tryz.underlying80 _ w.heap.size k _ rfl hown ?_)
     | go_in)
    go_ret
    exact ⟨ret_bool HS.out.dup,hB⟩
theorem book1_any (a:Option Addr) (n cap i p:Nat) (Nm:Nat→ByteArray) (V:Nat→Value) (w:World) (H:Row2 w a n Nm V) (hi:i < n) (hn:n≤9223372036854775807) (hp:w.cell? ⟨p,0,none⟩=some (.slice a n cap)) :
 Calls Tryz.prog 148 #[.int .i64 i,.pointer (some ⟨p,0,none⟩)] w fun e w'=>e=.returned (.string (Nm i))∧w'=w:=by
 obtain ⟨b,off,rfl,hc⟩:=H (by omega)
 have f0:=(hc i hi).1.1
 clear H hc
 go_enter Tryz.func148,Tryz.ntmps148
 go_wp2
 go_ret
 exact ⟨rfl,rfl⟩
theorem twice_book (a:Option Addr) (n cap p:Nat) (Nm:Nat→ByteArray) (V:Nat→Value) (w:World) (H:Row2 w a n Nm V) (hn:n≤16) (hp:w.cell? ⟨p,0,none⟩=some (.slice a n cap)) :
 Calls Tryz.prog 147 #[.int .i64 n,.func (.func 148) #[] #[.pointer (some ⟨p,0,none⟩)]] w (RV (.bool (dupB Nm n)) w):=by
 have hmm:=@run_makeMap Tryz.prog
 have HC:=hid H
 have HP:=hid hp
 clear H hp
 go_enter Tryz.func147,Tryz.ntmps147
 go_wp2
 go_loopw [9] (fun v wr=>∃ k:Nat,k≤n∧v=.int .i64 k∧(∃ D,wr.ownsMap Tryz.prog 9 (plainElem (H:=Unit) Tryz.prog 3) w.heap.size k D∧Hid (Seen Nm k D))∧Below w.heap.size w wr) (fun v _=>n - (intOf v).toNat)
 case atStart=>exact ⟨0,Nat.zero_le _,rfl,⟨_,World.ownsMap_made _ _ _ _,seen_none Nm⟩,nwB _ _⟩
 case round =>
  obtain ⟨k,hk,rfl,⟨D,hown,HS⟩,hB⟩:=hrel
  by_cases hkn:k < n
  · have C:Hid (Calls Tryz.prog 148 _ wr _):=book1_any a n cap k p Nm V wr (HC.out.later hB) hkn (by omega) (cell_later HP.out hB)
    have hsz:(Nm k).size≤maxLen:=by
     obtain ⟨_,_,_,hc⟩:=HC.out (by omega)
     exact (hc k hkn).2
    have HZ:=hid hsz
    have hkey:keyOf Tryz.prog 9 (.string (Nm k))=some (keyS (Nm k)):=keyOf_string_mk Tryz.underlying9 hsz
    clear hsz
    go_wp2_with (first
     | (go_at_call 148;refine C.out.mono ?_;rintro e w1 ⟨rfl,hw1⟩;replace hw1:=hw1.symm;subst hw1)
     | (at_mapUpdate;refine wpList_mapUpdate_own _ rfl _ _ _ 80 rfl 9 3 str_law Tryz.underlying80 (plainElem (H:=Unit) Tryz.prog 3) w.heap.size k _ rfl hown (by unfold maxLen;omega) _ _ _ rfl rfl hkey _ [] (plainElem_int Tryz.underlying3 (WalkArith.wf_i64 (by omega))) ?_;intro w1 hown1 hgrow1)
     | go_in)
    go_roundw
    case rel=>exact ⟨k+1,by omega,by go_num,⟨_,hown1,HS.out.more hown.isMap (hown.tidy str_law) _⟩,hB.grown hgrow1 hB.size (fun j hj=>by cases hj;exact Nat.le_refl _)⟩
    case measure=>simp [intOf];omega
  · obtain rfl:k=n:=by omega
    go_wp2_with (first
     | (at_len;refine wpList_len_own _ rfl _ 80 rfl 9 3 Tryz.underlying80 _ w.heap.size k _ rfl hown ?_)
     | go_in)
    go_ret
    exact ⟨ret_bool HS.out.dup,hB⟩
theorem null_below (w:World):Calls Tryz.prog 192 #[] w (RV (valV 0 0 ⟨#[]⟩) w) :=
 (null_any w).mono fun e w' h=>⟨h.1,by rw [h.2];exact nwB _ _⟩
theorem fits_null (k:Int) (w:World):Calls Tryz.prog 200 #[valV 0 0 ⟨#[]⟩,.int .i64 k] w (RV (.bool (kindB k)) w):=by
 have hB0:Below w.heap.size w (w.alloc (valO 0 0 ⟨#[]⟩)):=nwB _ _
 have C:Hid (Calls Tryz.prog 171 _ _ _):=right_null0 (w.alloc (valO 0 0 ⟨#[]⟩))
 obtain ⟨f,hf⟩:∃ f,f=kindB k:=⟨_,rfl⟩
 rw [← hf]
 have HF:=hid hf
 have HX:Hid ((w.alloc (valO 0 0 ⟨#[]⟩)).cell? ⟨w.heap.size,0,none⟩=some (.int .i64 0)):=by
  show (w.alloc (valO 0 0 ⟨#[]⟩)).cell? ⟨w.heap.size,0,none⟩=some (.int .i64 0)
  simp
 clear hf
 by_cases h1:1≤k
 · by_cases h3:k≤3
   · go_enter Tryz.func200,Tryz.ntmps200
     go_wp2_with (first | (go_at_call 171;refine C.out.mono ?_;rintro e w1 ⟨rfl,hB1⟩;have f0:=cell_later HX.out hB1))
     go_ret
     exact ⟨ret_bool (by rw [HF.out];simp [kindB,h1,h3]),bt hB0 hB1⟩
   · go_enter Tryz.func200,Tryz.ntmps200
     go_wp2_with (first | (go_at_call 171;refine C.out.mono ?_;rintro e w1 ⟨rfl,hB1⟩;have f0:=cell_later HX.out hB1))
     go_ret
     exact ⟨ret_bool (by rw [HF.out];simp [kindB,h3]),bt hB0 hB1⟩
 · go_enter Tryz.func200,Tryz.ntmps200
   go_wp2_with (first | (go_at_call 171;refine C.out.mono ?_;rintro e w1 ⟨rfl,hB1⟩;have f0:=cell_later HX.out hB1))
   go_ret
   exact ⟨ret_bool (by rw [HF.out,kindB,decide_eq_false (by omega)];rfl),bt hB0 hB1⟩
theorem rightF_yes (s:ByteArray) (k:Int) (w:World) (hs:nameB s=true):Calls Tryz.prog 176 #[fldV s k] w (RV (.bool (kindB k)) w):=by
 have C2:Hid (∀ w,Calls Tryz.prog 103 #[.string s] w (RV (.bool true) w)):=fun w=>by have:=name_any s w;rwa [hs] at this
 have C7:Hid (∀ w,Calls Tryz.prog 200 #[valV 0 0 ⟨#[]⟩,.int .i64 k] w (RV (.bool (kindB k)) w)):=fits_null k
 clear hs
 go_enter Tryz.func176,Tryz.ntmps176
 go_wp2_with fail
 have hW0:Below w.heap.size w (w.alloc (fldO s k)):=nwB w _
 have HC:Hid ((w.alloc (fldO s k)).cell? ⟨w.heap.size,0,none⟩=some (.string s)∧(w.alloc (fldO s k)).cell? ⟨w.heap.size,1,none⟩=some (.int .i64 k)):=⟨by simp,by simp⟩
 generalize w.alloc (fldO s k)=W at hW0 HC ⊢
 refine bg fun d hHeld=>?_
 have hT:=hHeld
 refine tk 0 ?_
 refine tk 1 ?_ (hy:=fun w9 hSw=>by have cc:=cell_later HC.out.1 hSw;go_simp;(try with_reducible rfl))
 refine rd 2 fun K hK=>?_
 go_simp
 refine (C2.out _).mono ?_
 rintro e x2 ⟨rfl,hN2⟩
 go_wp2_with fail
 refine up hK hHeld hN2 ?_
 replace hT:=hT.trans (hN2.mono hT.size)
 replace hHeld:=Below.refl x2.heap.size x2
 clear hK K hN2
 refine tk 3 ?_
 refine tk 5 ?_
 refine tk 6 ?_ (hy:=fun w9 hSw=>by have cc:=cell_later HC.out.2 (bt hT hSw);go_simp;(try with_reducible rfl))
 refine rd 4 fun K hK=>?_
 go_simp
 refine (null_below _).mono ?_
 rintro e x4 ⟨rfl,hN4⟩
 go_wp2_with fail
 refine up hK hHeld hN4 ?_
 replace hT:=hT.trans (hN4.mono hT.size)
 replace hHeld:=Below.refl x4.heap.size x4
 clear hK K hN4
 refine rd 7 fun K hK=>?_
 go_simp
 refine (C7.out _).mono ?_
 rintro e x7 ⟨rfl,hN7⟩
 go_wp2_with fail
 refine up hK hHeld hN7 ?_
 replace hT:=hT.trans (hN7.mono hT.size)
 replace hHeld:=Below.refl x7.heap.size x7
 clear hK K hN7
 refine tk 8 ?_
 refine tk 9 ?_
 refine dn ?_
 go_wp2
 go_ret
 exact ⟨rfl,hW0.trans (hT.mono hW0.size)⟩
theorem rightF_not (s:ByteArray) (k:Int) (w:World) (hs:nameB s=false):Calls Tryz.prog 176 #[fldV s k] w (RV (.bool false) w):=by
 have C2:Hid (∀ w,Calls Tryz.prog 103 #[.string s] w (RV (.bool false) w)):=fun w=>by have:=name_any s w;rwa [hs] at this
 clear hs
 go_enter Tryz.func176,Tryz.ntmps176
 go_wp2_with fail
 have hW0:Below w.heap.size w (w.alloc (fldO s k)):=nwB w _
 have HC:Hid ((w.alloc (fldO s k)).cell? ⟨w.heap.size,0,none⟩=some (.string s)∧(w.alloc (fldO s k)).cell? ⟨w.heap.size,1,none⟩=some (.int .i64 k)):=⟨by simp,by simp⟩
 generalize w.alloc (fldO s k)=W at hW0 HC ⊢
 refine bg fun d hHeld=>?_
 have hT:=hHeld
 refine tk 0 ?_
 refine tk 1 ?_ (hy:=fun w9 hSw=>by have cc:=cell_later HC.out.1 hSw;go_simp;(try with_reducible rfl))
 refine rd 2 fun K hK=>?_
 go_simp
 refine (C2.out _).mono ?_
 rintro e x2 ⟨rfl,hN2⟩
 go_wp2_with fail
 refine up hK hHeld hN2 ?_
 replace hT:=hT.trans (hN2.mono hT.size)
 replace hHeld:=Below.refl x2.heap.size x2
 clear hK K hN2
 refine tk 3 ?_
 refine tn 4 ?_
 refine tn 5 ?_
 refine tn 6 ?_
 refine tn 7 ?_
 refine tk 8 ?_
 refine tk 9 ?_
 refine dn ?_
 go_wp2
 go_ret
 exact ⟨rfl,hW0.trans (hT.mono hW0.size)⟩
theorem rightF_any (s:ByteArray) (k:Int) (w:World):Calls Tryz.prog 176 #[fldV s k] w (RV (.bool (rightF s k)) w):=by
 unfold rightF
 cases hs:nameB s with
 | true=>simpa using rightF_yes s k w hs
 | false=>simpa using rightF_not s k w hs
theorem check_long (S:ByteArray) (a:Option Addr) (n cap:Nat) (w:World) (hn:¬ n≤16) :
 Calls Tryz.prog 146 #[schV S (.slice a n cap)] w (RV (.int .i64 2) w):=by
 have h16:16 < (n:Int):=by omega
 go_enter Tryz.func146,Tryz.ntmps146
 go_wp2
 go_ret
 exact ⟨rfl,nwB _ _⟩
theorem check_name (S:ByteArray) (a:Option Addr) (n cap:Nat) (w:World) (hn:n≤16) (hS:nameB S=false) :
 Calls Tryz.prog 146 #[schV S (.slice a n cap)] w (RV (.int .i64 1) w):=by
 have h16:¬ 16 < (n:Int):=by omega
 have hB0:Below w.heap.size w (w.alloc (schO S (.slice a n cap))):=nwB _ _
 have C:Hid (Calls Tryz.prog 103 _ _ _):=name_any S (w.alloc (schO S (.slice a n cap)))
 rw [hS] at C
 clear hS
 go_enter Tryz.func146,Tryz.ntmps146
 go_wp2_with (first | (go_at_call 103;refine C.out.mono ?_;rintro e w1 ⟨rfl,hB1⟩))
 go_ret
 exact ⟨rfl,bt hB0 hB1⟩
theorem check_dup (S:ByteArray) (a:Option Addr) (n cap:Nat) (Nm:Nat→ByteArray) (K:Nat→Int) (w:World) (H:Flds w a n Nm K) (hn:n≤16) (hS:nameB S=true) (hD:dupB Nm n=true) :
 Calls Tryz.prog 146 #[schV S (.slice a n cap)] w (RV (.int .i64 1) w):=by
 have h16:¬ 16 < (n:Int):=by omega
 have hB0:Below w.heap.size w (w.alloc (schO S (.slice a n cap))):=nwB _ _
 have C:Hid (Calls Tryz.prog 103 _ _ _):=name_any S (w.alloc (schO S (.slice a n cap)))
 rw [hS] at C
 have HX:Hid ((w.alloc (schO S (.slice a n cap))).cell? ⟨w.heap.size,1,none⟩=some (.slice a n cap)):=by
  show (w.alloc (schO S (.slice a n cap))).cell? ⟨w.heap.size,1,none⟩=some (.slice a n cap)
  rw [World.cell?_alloc_at _ _ _ _ rfl];rfl
 have C2:Hid (∀ w1,Below (w.alloc (schO S (.slice a n cap))).heap.size (w.alloc (schO S (.slice a n cap))) w1→Calls Tryz.prog 147 #[.int .i64 n,.func (.func 175) #[] #[.pointer (some ⟨w.heap.size,0,none⟩)]] w1 (RV (.bool (dupB Nm n)) w1)) :=
  fun w1 hB=>twice_check a n cap w.heap.size Nm _ w1 ((H.later hB0).later hB) hn (cell_later HX.out hB)
 rw [hD] at C2
 clear hS hD H
 go_enter Tryz.func146,Tryz.ntmps146
 go_wp2_with (first
  | (go_at_call 103
     refine C.out.mono ?_
     rintro e w1 ⟨rfl,hB1⟩
     have f1:=cell_later HX.out hB1)
  | (go_at_call 147
     refine (C2.out _ hB1).mono ?_
     rintro e w2 ⟨rfl,hB2⟩))
 go_ret
 exact ⟨rfl,bt (bt hB0 hB1) hB2⟩
theorem check_all (S:ByteArray) (a:Option Addr) (n cap:Nat) (Nm:Nat→ByteArray) (K:Nat→Int) (w:World) (H:Flds w a n Nm K) (hn:n≤16) (hS:nameB S=true) (hD:dupB Nm n=false) :
 Calls Tryz.prog 146 #[schV S (.slice a n cap)] w (RV (.int .i64 (if allR Nm K n=true then 0 else 1)) w):=by
 obtain ⟨x,hx⟩:∃ x:Int,x=if allR Nm K n=true then 0 else 1:=⟨_,rfl⟩
 rw [← hx]
 have HQ:=hid hx
 have HF:=hid H
 have h16:¬ 16 < (n:Int):=by omega
 have hB0:Below w.heap.size w (w.alloc (schO S (.slice a n cap))):=nwB _ _
 have C:Hid (Calls Tryz.prog 103 _ _ _):=name_any S (w.alloc (schO S (.slice a n cap)))
 rw [hS] at C
 have HX:Hid ((w.alloc (schO S (.slice a n cap))).cell? ⟨w.heap.size,1,none⟩=some (.slice a n cap)):=by
  show (w.alloc (schO S (.slice a n cap))).cell? ⟨w.heap.size,1,none⟩=some (.slice a n cap)
  rw [World.cell?_alloc_at _ _ _ _ rfl];rfl
 have C2:Hid (∀ w1,Below (w.alloc (schO S (.slice a n cap))).heap.size (w.alloc (schO S (.slice a n cap))) w1→Calls Tryz.prog 147 #[.int .i64 n,.func (.func 175) #[] #[.pointer (some ⟨w.heap.size,0,none⟩)]] w1 (RV (.bool (dupB Nm n)) w1)) :=
  fun w1 hB=>twice_check a n cap w.heap.size Nm _ w1 ((H.later hB0).later hB) hn (cell_later HX.out hB)
 rw [hD] at C2
 clear hS hD H hx
 go_enter Tryz.func146,Tryz.ntmps146
 go_upto_region 7 with (first
  | (go_at_call 103
     refine C.out.mono ?_
     rintro e w1 ⟨rfl,hB1⟩
     have f1:=cell_later HX.out hB1)
  | (go_at_call 147
     refine (C2.out _ hB1).mono ?_
     rintro e w2 ⟨rfl,hB2⟩
     have f2:=cell_later HX.out (bt hB1 hB2)
     clear f1))
 have hB3:=bt (bt hB0 hB1) hB2
 clear hB0 hB1 hB2 C C2 HX
 go_wp2_with fail
 go_loopw [24] (fun v wr=>∃ k:Nat,k≤n∧v=.int .i64 k∧Hid (allR Nm K k=true)∧Below w.heap.size w wr) (fun v _=>n - (intOf v).toNat)
 case atStart=>exact ⟨0,Nat.zero_le _,rfl,rfl,hB3⟩
 case round =>
  clear f2
  obtain ⟨k,hk,rfl,HA,hB⟩:=hrel
  by_cases hkn:k < n
  · obtain ⟨b,off,rfl,hc⟩:=(HF.out.later hB) (by omega)
    have f0:=(hc k hkn).1.1
    have f1:=(hc k hkn).1.2
    have hB4:Below w.heap.size w (wr.alloc (fldO (Nm k) (K k))):=hB.alloc hB.size _
    have C:Hid (Calls Tryz.prog 176 _ _ _):=rightF_any (Nm k) (K k) (wr.alloc (fldO (Nm k) (K k)))
    clear hc
    cases hr:rightF (Nm k) (K k) with
    | false =>
      rw [hr] at C
      have HN:Hid (allR Nm K n=false):=allR_not Nm K n k hkn hr
      clear hr
      go_wp2_with (first | (go_at_call 176;refine C.out.mono ?_;rintro e w5 ⟨rfl,hB5⟩))
      try rw [Exit.noGoto_ret]
      go_ret
      exact ⟨ret_int (by rw [HQ.out,HN.out];rfl),bt hB4 hB5⟩
    | true =>
      rw [hr] at C
      have HY:Hid (allR Nm K (k+1)=true):=by show allR Nm K (k+1)=true;simp only [allR];rw [HA.out,hr];rfl
      clear hr
      go_wp2_with (first | (go_at_call 176;refine C.out.mono ?_;rintro e w5 ⟨rfl,hB5⟩))
      go_roundw
      case rel=>exact ⟨k+1,by omega,by go_num,HY,bt hB4 hB5⟩
      case measure=>simp [intOf];omega
  · obtain rfl:k=n:=by omega
    go_wp2
    go_ret
    exact ⟨ret_int (by rw [HQ.out,HA.out];rfl),hB⟩
theorem check_any (S:ByteArray) (a:Option Addr) (n cap:Nat) (Nm:Nat→ByteArray) (K:Nat→Int) (w:World) (H:Flds w a n Nm K) :
 Calls Tryz.prog 146 #[schV S (.slice a n cap)] w (RV (.int .i64 (chkZ S n Nm K)) w):=by
 unfold chkZ
 by_cases hn:n≤16
 · rw [if_neg (by omega)]
   cases hS:nameB S with
   | false=>exact check_name S a n cap w hn hS
   | true =>
     rw [if_neg (by simp)]
     cases hD:dupB Nm n with
     | true=>exact check_dup S a n cap Nm K w H hn hS hD
     | false=>exact check_all S a n cap Nm K w H hn hS hD
 · rw [if_pos (by omega)]
   exact check_long S a n cap w hn
structure Sch where
 nm:ByteArray
 a:Option Addr
 l:Nat
 c:Nat
 fn:Nat→ByteArray
 fk:Nat→Int
abbrev Sch.v (x:Sch):Value:=.slice x.a x.l x.c
abbrev Sch.chk (x:Sch):Int:=chkZ x.nm x.l x.fn x.fk
def Schs (w:World) (a:Option Addr) (n:Nat) (Q:Nat→Sch):Prop :=
 Row2 w a n (fun j=>(Q j).nm) (fun j=>(Q j).v)∧∀ j,j < n→Flds w (Q j).a (Q j).l (Q j).fn (Q j).fk∧(Q j).l≤9223372036854775807
theorem Schs.later {w w':World} {a:Option Addr} {n:Nat} {Q:Nat→Sch} (h:Schs w a n Q) (hB:Below w.heap.size w w'):Schs w' a n Q :=
 ⟨h.1.later hB,fun j hj=>⟨(h.2 j hj).1.later hB,(h.2 j hj).2⟩⟩
def chks (Q:Nat→Sch):Nat→Int
 | 0=>0
 | k+1=>if chks Q k=0 then (Q k).chk else chks Q k
theorem chks_stop (Q:Nat→Sch) (k:Nat) (h0:chks Q k=0) (h1:¬ (Q k).chk=0):∀ n,k < n→chks Q n=(Q k).chk
 | 0,h=>by omega
 | n+1,h=>by
   by_cases e:k=n
   · subst e;simp [chks,h0]
   · have:=chks_stop Q k h0 h1 n (by omega)
     simp [chks,this,h1]
theorem chks_ok (Q:Nat→Sch):∀ n,chks Q n=0→∀ j,j < n→(Q j).chk=0
 | 0,_,j,h=>by omega
 | n+1,h,j,hj=>by
   simp only [chks] at h
   split at h
   · rename_i h0
     by_cases e:j=n
     · exact e ▸ h
     · exact chks_ok Q n h0 j (by omega)
   · contradiction
def bookZ (n:Nat) (Q:Nat→Sch):Int :=
 if 16 < n then 2 else if chks Q n=0 then (if dupB (fun j=>(Q j).nm) n=true then 4 else 0) else chks Q n
theorem book_long (a:Option Addr) (n cap:Nat) (w:World) (hn:¬ n≤16) :
 Calls Tryz.prog 112 #[.slice a n cap] w (RV (.int .i64 2) w):=by
 have h16:16 < (n:Int):=by omega
 go_enter Tryz.func112,Tryz.ntmps112
 go_wp2
 go_ret
 exact ⟨rfl,nwB _ _⟩
theorem book_few (a:Option Addr) (n cap:Nat) (Q:Nat→Sch) (w:World) (H:Schs w a n Q) (hn:n≤16) :
 Calls Tryz.prog 112 #[.slice a n cap] w (RV (.int .i64 (if chks Q n=0 then (if dupB (fun j=>(Q j).nm) n=true then 4 else 0) else chks Q n)) w):=by
 obtain ⟨x,hx⟩:∃ x:Int,x=if chks Q n=0 then (if dupB (fun j=>(Q j).nm) n=true then 4 else 0) else chks Q n:=⟨_,rfl⟩
 rw [← hx]
 have HQ:=hid hx
 have h16:¬ 16 < (n:Int):=by omega
 have hB0:Below w.heap.size w (w.alloc (.cells #[.slice a n cap] 22)):=nwB _ _
 have HX:Hid ((w.alloc (.cells #[.slice a n cap] 22)).cell? ⟨w.heap.size,0,none⟩=some (.slice a n cap)):=by
  show (w.alloc (.cells #[.slice a n cap] 22)).cell? ⟨w.heap.size,0,none⟩=some (.slice a n cap)
  rw [World.cell?_alloc_at _ _ _ _ rfl];rfl
 have HF:Hid (Schs (w.alloc (.cells #[.slice a n cap] 22)) a n Q):=H.later hB0
 clear hx H
 go_enter Tryz.func112,Tryz.ntmps112
 go_upto_region 1 with fail
 obtain ⟨W,hW⟩:∃ W,W=(w.alloc (.cells #[.slice a n cap] 22)):=⟨_,rfl⟩
 obtain ⟨P,hP⟩:∃ P,P=w.heap.size:=⟨_,rfl⟩
 rw [← hW,← hP] at HX
 rw [← hW] at hB0 HF
 rw [← hW,← hP]
 clear hW hP
 have f0:=HX.out
 go_wp2_with fail
 go_loopw [11] (fun v wr=>∃ k:Nat,k≤n∧v=.int .i64 k∧Hid (chks Q k=0)∧Below W.heap.size W wr) (fun v _=>n - (intOf v).toNat)
 case atStart=>exact ⟨0,Nat.zero_le _,rfl,rfl,Below.refl _ _⟩
 case round =>
  clear f0
  obtain ⟨k,hk,rfl,HA,hB⟩:=hrel
  by_cases hkn:k < n
  · have HG:=HF.out.later hB
    obtain ⟨b,off,rfl,hc⟩:=HG.1 (by omega)
    have f0:=(hc k hkn).1.1
    have f1:=(hc k hkn).1.2
    have hB3:Below wr.heap.size wr (wr.alloc (schO (Q k).nm (Q k).v)):=nwB _ _
    have hB4:=bt hB hB3
    obtain ⟨y,hy⟩:∃ y,y=(Q k).chk:=⟨_,rfl⟩
    have C:Hid (Calls Tryz.prog 146 #[schV (Q k).nm (Q k).v] _ _):=check_any (Q k).nm (Q k).a (Q k).l (Q k).c (Q k).fn (Q k).fk (wr.alloc (schO (Q k).nm (Q k).v)) ((HG.2 k hkn).1.later hB3)
    have HY:=hid hy
    rw [show chkZ (Q k).nm (Q k).l (Q k).fn (Q k).fk=y from hy.symm] at C
    clear hc HG hy hB3
    by_cases hy0:y=0
    · subst hy0
      go_wp2_with (first | (go_at_call 146;refine C.out.mono ?_;rintro e w5 ⟨rfl,hB5⟩))
      go_roundw
      case rel=>exact ⟨k+1,by omega,by go_num,by show chks Q (k+1)=0;simp only [chks];rw [if_pos HA.out];exact HY.out.symm,bt hB4 hB5⟩
      case measure=>simp [intOf];omega
    · have hy1:(y == 0)=false:=by simpa using hy0
      go_wp2_with (first | (go_at_call 146;refine C.out.mono ?_;rintro e w5 ⟨rfl,hB5⟩))
      try rw [Exit.noGoto_ret]
      go_ret
      refine ⟨ret_int ?_,hB0.trans ((bt hB4 hB5).mono hB0.size)⟩
      have e1:=chks_stop Q k HA.out (by rw [← HY.out];exact hy0) n hkn
      rw [HQ.out,e1,← HY.out,if_neg hy0]
  · obtain rfl:k=n:=by omega
    have f0:=cell_later HX.out hB
    have C:Hid (Calls Tryz.prog 147 _ wr _):=twice_book a k cap P (fun j=>(Q j).nm) _ wr (HF.out.later hB).1 hn f0
    cases hd:dupB (fun j=>(Q j).nm) k with
    | true =>
      rw [hd] at C
      have HD:=hid hd
      clear hd
      go_wp2_with (first | (go_at_call 147;refine C.out.mono ?_;rintro e w5 ⟨rfl,hB5⟩))
      go_ret
      exact ⟨ret_int (by rw [HQ.out,if_pos HA.out,if_pos HD.out]),hB0.trans ((bt hB hB5).mono hB0.size)⟩
    | false =>
      rw [hd] at C
      have HD:=hid hd
      clear hd
      go_wp2_with (first | (go_at_call 147;refine C.out.mono ?_;rintro e w5 ⟨rfl,hB5⟩))
      go_ret
      exact ⟨ret_int (by rw [HQ.out,if_pos HA.out,HD.out];rfl),hB0.trans ((bt hB hB5).mono hB0.size)⟩
theorem book_any (a:Option Addr) (n cap:Nat) (Q:Nat→Sch) (w:World) (H:Schs w a n Q) :
 Calls Tryz.prog 112 #[.slice a n cap] w (RV (.int .i64 (bookZ n Q)) w):=by
 unfold bookZ
 by_cases hn:n≤16
 · rw [if_neg (by omega)]
   exact book_few a n cap Q w H hn
 · rw [if_pos (by omega)]
   exact book_long a n cap w hn
theorem find1_any (S s:ByteArray) (v:Value) (p:Nat) (w:World) (hp:w.cell? ⟨p,0,none⟩=some (.string s)):Calls Tryz.prog 181 #[schV S v,.pointer (some ⟨p,0,none⟩)] w (RV (.bool (decide (S=s))) w):=by
 have hp1:=cell_new w (schO S v) _ _ hp
 clear hp
 go_enter Tryz.func181,Tryz.ntmps181
 go_wp2
 go_ret
 exact ⟨ret_bool (same_str S s),nwB _ _⟩
theorem field1_any (S s:ByteArray) (k:Int) (p:Nat) (w:World) (hp:w.cell? ⟨p,0,none⟩=some (.string s)):Calls Tryz.prog 219 #[fldV S k,.pointer (some ⟨p,0,none⟩)] w (RV (.bool (decide (S=s))) w):=by
 have hp1:=cell_new w (fldO S k) _ _ hp
 clear hp
 go_enter Tryz.func219,Tryz.ntmps219
 go_wp2
 go_ret
 exact ⟨ret_bool (same_str S s),nwB _ _⟩
theorem indexS_some (a:Option Addr) (n cap i p:Nat) (Nm:Nat→ByteArray) (V:Nat→Value) (s:ByteArray) (w:World) (H:Row2 w a n Nm V) (hn:n≤9223372036854775807) (hp:w.cell? ⟨p,0,none⟩=some (.string s)) (hi:i < n) (he:Nm i=s) (hl:∀ j,j < i→¬ Nm j=s) :
 Calls Tryz.prog 180 #[.slice a n cap,.func (.func 181) #[] #[.pointer (some ⟨p,0,none⟩)]] w (RV (.int .i64 i) w):=by
 obtain ⟨b,off,rfl,hc⟩:=H (by omega)
 have HC:=hid hc
 have HE:=hid he
 have HL:=hid hl
 have HP:=hid hp
 clear H hc he hl hp
 go_enter Tryz.func180,Tryz.ntmps180
 go_wp2
 go_loopw [8] (fun v wr=>∃ k:Nat,k≤i∧v=.int .i64 k∧Below w.heap.size w wr) (fun v _=>i - (intOf v).toNat)
 case atStart=>exact ⟨0,Nat.zero_le _,rfl,Below.refl _ _⟩
 case round =>
  obtain ⟨k,hk,rfl,hB⟩:=hrel
  have hkn:k < n:=by omega
  have f0:=cell_later (HC.out k hkn).1.1 hB
  have f1:=cell_later (HC.out k hkn).1.2 hB
  have C:Hid (Calls Tryz.prog 181 _ wr _):=find1_any (Nm k) s (V k) p wr (cell_later HP.out hB)
  by_cases hki:k=i
  · subst hki
    rw [decide_eq_true HE.out] at C
    go_wp2_with (first | (go_at_call 181;refine C.out.mono ?_;rintro e w1 ⟨rfl,hB1⟩))
    try rw [Exit.noGoto_ret]
    go_ret
    exact ⟨rfl,hB.trans (hB1.mono hB.size)⟩
  · rw [decide_eq_false (HL.out k (by omega))] at C
    go_wp2_with (first | (go_at_call 181;refine C.out.mono ?_;rintro e w1 ⟨rfl,hB1⟩))
    go_roundw
    case rel=>exact ⟨k+1,by omega,by go_num,hB.trans (hB1.mono hB.size)⟩
    case measure=>simp [intOf];omega
theorem indexS_none (a:Option Addr) (n cap p:Nat) (Nm:Nat→ByteArray) (V:Nat→Value) (s:ByteArray) (w:World) (H:Row2 w a n Nm V) (hn:n≤9223372036854775807) (hp:w.cell? ⟨p,0,none⟩=some (.string s)) (hl:∀ j,j < n→¬ Nm j=s) :
 Calls Tryz.prog 180 #[.slice a n cap,.func (.func 181) #[] #[.pointer (some ⟨p,0,none⟩)]] w (RV (.int .i64 (-1)) w):=by
 have HC:=hid H
 have HL:=hid hl
 have HP:=hid hp
 clear H hl hp
 go_enter Tryz.func180,Tryz.ntmps180
 go_wp2
 go_loopw [8] (fun v wr=>∃ k:Nat,k≤n∧v=.int .i64 k∧Below w.heap.size w wr) (fun v _=>n - (intOf v).toNat)
 case atStart=>exact ⟨0,Nat.zero_le _,rfl,Below.refl _ _⟩
 case round =>
  obtain ⟨k,hk,rfl,hB⟩:=hrel
  by_cases hkn:k < n
  · obtain ⟨b,off,rfl,hc⟩:=HC.out (by omega)
    have f0:=cell_later (hc k hkn).1.1 hB
    have f1:=cell_later (hc k hkn).1.2 hB
    have C:Hid (Calls Tryz.prog 181 _ wr _):=find1_any (Nm k) s (V k) p wr (cell_later HP.out hB)
    rw [decide_eq_false (HL.out k hkn)] at C
    clear hc
    go_wp2_with (first | (go_at_call 181;refine C.out.mono ?_;rintro e w1 ⟨rfl,hB1⟩))
    go_roundw
    case rel=>exact ⟨k+1,by omega,by go_num,hB.trans (hB1.mono hB.size)⟩
    case measure=>simp [intOf];omega
  · go_wp2
    go_ret
    exact ⟨rfl,hB⟩
theorem indexF_some (a:Option Addr) (n cap i p:Nat) (Nm:Nat→ByteArray) (K:Nat→Int) (s:ByteArray) (w:World) (H:Flds w a n Nm K) (hn:n≤9223372036854775807) (hp:w.cell? ⟨p,0,none⟩=some (.string s)) (hi:i < n) (he:Nm i=s) (hl:∀ j,j < i→¬ Nm j=s) :
 Calls Tryz.prog 218 #[.slice a n cap,.func (.func 219) #[] #[.pointer (some ⟨p,0,none⟩)]] w (RV (.int .i64 i) w):=by
 obtain ⟨b,off,rfl,hc⟩:=H (by omega)
 have HC:=hid hc
 have HE:=hid he
 have HL:=hid hl
 have HP:=hid hp
 clear H hc he hl hp
 go_enter Tryz.func218,Tryz.ntmps218
 go_wp2
 go_loopw [8] (fun v wr=>∃ k:Nat,k≤i∧v=.int .i64 k∧Below w.heap.size w wr) (fun v _=>i - (intOf v).toNat)
 case atStart=>exact ⟨0,Nat.zero_le _,rfl,Below.refl _ _⟩
 case round =>
  obtain ⟨k,hk,rfl,hB⟩:=hrel
  have hkn:k < n:=by omega
  have f0:=cell_later (HC.out k hkn).1.1 hB
  have f1:=cell_later (HC.out k hkn).1.2 hB
  have C:Hid (Calls Tryz.prog 219 _ wr _):=field1_any (Nm k) s (K k) p wr (cell_later HP.out hB)
  by_cases hki:k=i
  · subst hki
    rw [decide_eq_true HE.out] at C
    go_wp2_with (first | (go_at_call 219;refine C.out.mono ?_;rintro e w1 ⟨rfl,hB1⟩))
    try rw [Exit.noGoto_ret]
    go_ret
    exact ⟨rfl,hB.trans (hB1.mono hB.size)⟩
  · rw [decide_eq_false (HL.out k (by omega))] at C
    go_wp2_with (first | (go_at_call 219;refine C.out.mono ?_;rintro e w1 ⟨rfl,hB1⟩))
    go_roundw
    case rel=>exact ⟨k+1,by omega,by go_num,hB.trans (hB1.mono hB.size)⟩
    case measure=>simp [intOf];omega
theorem indexF_none (a:Option Addr) (n cap p:Nat) (Nm:Nat→ByteArray) (K:Nat→Int) (s:ByteArray) (w:World) (H:Flds w a n Nm K) (hn:n≤9223372036854775807) (hp:w.cell? ⟨p,0,none⟩=some (.string s)) (hl:∀ j,j < n→¬ Nm j=s) :
 Calls Tryz.prog 218 #[.slice a n cap,.func (.func 219) #[] #[.pointer (some ⟨p,0,none⟩)]] w (RV (.int .i64 (-1)) w):=by
 have HC:=hid H
 have HL:=hid hl
 have HP:=hid hp
 clear H hl hp
 go_enter Tryz.func218,Tryz.ntmps218
 go_wp2
 go_loopw [8] (fun v wr=>∃ k:Nat,k≤n∧v=.int .i64 k∧Below w.heap.size w wr) (fun v _=>n - (intOf v).toNat)
 case atStart=>exact ⟨0,Nat.zero_le _,rfl,Below.refl _ _⟩
 case round =>
  obtain ⟨k,hk,rfl,hB⟩:=hrel
  by_cases hkn:k < n
  · obtain ⟨b,off,rfl,hc⟩:=HC.out (by omega)
    have f0:=cell_later (hc k hkn).1.1 hB
    have f1:=cell_later (hc k hkn).1.2 hB
    have C:Hid (Calls Tryz.prog 219 _ wr _):=field1_any (Nm k) s (K k) p wr (cell_later HP.out hB)
    rw [decide_eq_false (HL.out k hkn)] at C
    clear hc
    go_wp2_with (first | (go_at_call 219;refine C.out.mono ?_;rintro e w1 ⟨rfl,hB1⟩))
    go_roundw
    case rel=>exact ⟨k+1,by omega,by go_num,hB.trans (hB1.mono hB.size)⟩
    case measure=>simp [intOf];omega
  · go_wp2
    go_ret
    exact ⟨rfl,hB⟩
theorem find_some (a:Option Addr) (n cap i:Nat) (Nm:Nat→ByteArray) (V:Nat→Value) (s:ByteArray) (w:World) (H:Row2 w a n Nm V) (hn:n≤9223372036854775807) (hi:i < n) (he:Nm i=s) (hl:∀ j,j < i→¬ Nm j=s) :
 Calls Tryz.prog 151 #[.slice a n cap,.string s] w (RV (.tuple #[.int .i64 i,.bool true]) w):=by
 have hB0:Below w.heap.size w (w.alloc (.cells #[.string s] 9)):=nwB _ _
 have H1:=H.later hB0
 have hp:(w.alloc (.cells #[.string s] 9)).cell? ⟨w.heap.size,0,none⟩=some (.string s):=by rw [World.cell?_alloc_at _ _ _ _ rfl];rfl
 have C:Hid (Calls Tryz.prog 180 _ (w.alloc (.cells #[.string s] 9)) _):=indexS_some a n cap i w.heap.size Nm V s _ H1 hn hp hi he hl
 clear hn hp hi he hl H H1
 go_enter Tryz.func151,Tryz.ntmps151
 go_wp2_with (first | (go_at_call 180;refine C.out.mono ?_;rintro e w1 ⟨rfl,hB1⟩))
 exact bodyPost_ret (v:=.tuple #[.int .i64 i,.bool true]) (by simp [results,Tryz.results151,go_sem]) rfl ⟨rfl,hB0.trans (hB1.mono hB0.size)⟩
theorem find_none (a:Option Addr) (n cap:Nat) (Nm:Nat→ByteArray) (V:Nat→Value) (s:ByteArray) (w:World) (H:Row2 w a n Nm V) (hn:n≤9223372036854775807) (hl:∀ j,j < n→¬ Nm j=s) :
 Calls Tryz.prog 151 #[.slice a n cap,.string s] w (RV (.tuple #[.int .i64 0,.bool false]) w):=by
 have hB0:Below w.heap.size w (w.alloc (.cells #[.string s] 9)):=nwB _ _
 have H1:=H.later hB0
 have hp:(w.alloc (.cells #[.string s] 9)).cell? ⟨w.heap.size,0,none⟩=some (.string s):=by rw [World.cell?_alloc_at _ _ _ _ rfl];rfl
 have C:Hid (Calls Tryz.prog 180 _ (w.alloc (.cells #[.string s] 9)) _):=indexS_none a n cap w.heap.size Nm V s _ H1 hn hp hl
 clear hn hp hl H H1
 go_enter Tryz.func151,Tryz.ntmps151
 go_wp2_with (first | (go_at_call 180;refine C.out.mono ?_;rintro e w1 ⟨rfl,hB1⟩))
 exact bodyPost_ret (v:=.tuple #[.int .i64 0,.bool false]) (by simp [results,Tryz.results151,go_sem]) rfl ⟨rfl,hB0.trans (hB1.mono hB0.size)⟩
theorem field_some (S:ByteArray) (a:Option Addr) (n cap i:Nat) (Nm:Nat→ByteArray) (K:Nat→Int) (s:ByteArray) (w:World) (H:Flds w a n Nm K) (hn:n≤9223372036854775807) (hi:i < n) (he:Nm i=s) (hl:∀ j,j < i→¬ Nm j=s) :
 Calls Tryz.prog 212 #[schV S (.slice a n cap),.string s] w (RV (.tuple #[.int .i64 i,.int .i64 (K i),.bool true]) w):=by
 have hB0:Below w.heap.size w ((w.alloc (schO S (.slice a n cap))).alloc (.cells #[.string s] 9)):=(nwB _ _).alloc (by simp) _
 have H1:=H.later hB0
 have hp:((w.alloc (schO S (.slice a n cap))).alloc (.cells #[.string s] 9)).cell? ⟨w.heap.size+1,0,none⟩=some (.string s):=by rw [World.cell?_alloc_at _ _ _ _ (by simp)];rfl
 have C:Hid (Calls Tryz.prog 218 _ ((w.alloc (schO S (.slice a n cap))).alloc (.cells #[.string s] 9)) _):=indexF_some a n cap i (w.heap.size+1) Nm K s _ H1 hn hp hi he hl
 have HX:Hid (((w.alloc (schO S (.slice a n cap))).alloc (.cells #[.string s] 9)).cell? ⟨w.heap.size,1,none⟩=some (.slice a n cap)):=by
  show ((w.alloc (schO S (.slice a n cap))).alloc (.cells #[.string s] 9)).cell? ⟨w.heap.size,1,none⟩=some (.slice a n cap)
  rw [World.cell?_alloc_past _ _ _ (by simp),World.cell?_alloc_at _ _ _ _ rfl];rfl
 have HR:=hid H1
 clear hp he hl H H1
 go_enter Tryz.func212,Tryz.ntmps212
 go_upto_region 2 with (first | (go_at_call 218;refine C.out.mono ?_;rintro e w1 ⟨rfl,hB1⟩))
 have f1:=cell_later HX.out hB1
 obtain ⟨b,off,rfl,hc⟩:=(HR.out.later hB1) (by omega)
 have f2:=(hc i hi).1.2
 clear hc C HX HR
 go_wp2_with fail
 go_quiet (fail)
 go_wp2
 exact bodyPost_ret (v:=.tuple #[.int .i64 i,.int .i64 (K i),.bool true]) (by simp [results,Tryz.results212,go_sem]) rfl ⟨rfl,bd (bt hB0 hB1) _⟩
theorem field_none (S:ByteArray) (a:Option Addr) (n cap:Nat) (Nm:Nat→ByteArray) (K:Nat→Int) (s:ByteArray) (w:World) (H:Flds w a n Nm K) (hn:n≤9223372036854775807) (hl:∀ j,j < n→¬ Nm j=s) :
 Calls Tryz.prog 212 #[schV S (.slice a n cap),.string s] w (RV (.tuple #[.int .i64 0,.int .i64 0,.bool false]) w):=by
 have hB0:Below w.heap.size w ((w.alloc (schO S (.slice a n cap))).alloc (.cells #[.string s] 9)):=(nwB _ _).alloc (by simp) _
 have H1:=H.later hB0
 have hp:((w.alloc (schO S (.slice a n cap))).alloc (.cells #[.string s] 9)).cell? ⟨w.heap.size+1,0,none⟩=some (.string s):=by rw [World.cell?_alloc_at _ _ _ _ (by simp)];rfl
 have C:Hid (Calls Tryz.prog 218 _ ((w.alloc (schO S (.slice a n cap))).alloc (.cells #[.string s] 9)) _):=indexF_none a n cap (w.heap.size+1) Nm K s _ H1 hn hp hl
 clear hn hp hl H H1
 go_enter Tryz.func212,Tryz.ntmps212
 go_wp2_with (first | (go_at_call 218;refine C.out.mono ?_;rintro e w1 ⟨rfl,hB1⟩))
 exact bodyPost_ret (v:=.tuple #[.int .i64 0,.int .i64 0,.bool false]) (by simp [results,Tryz.results212,go_sem]) rfl ⟨rfl,hB0.trans (hB1.mono hB0.size)⟩
theorem refFind_some (a:Option Addr) (n cap i:Nat) (Nm:Nat→ByteArray) (V:Nat→Value) (s:ByteArray) (w:World) (H:Row2 w a n Nm V) (hn:n≤9223372036854775807) (hi:i < n) (he:Nm i=s) (hl:∀ j,j < i→¬ Nm j=s) :
 Calls Tryz.prog 83 #[.slice a n cap,.string s] w (RV (.tuple #[.int .i64 i,.bool true]) w):=by
 obtain ⟨b,off,rfl,hc⟩:=H (by omega)
 have HC:=hid hc
 have HE:=hid he
 have HL:=hid hl
 clear H hc he hl
 go_enter Tryz.func83,Tryz.ntmps83
 go_wp2
 go_loopw [6] (fun v wr=>∃ k:Nat,k≤i∧v=.int .i64 k∧Below w.heap.size w wr) (fun v _=>i - (intOf v).toNat)
 case atStart=>exact ⟨0,Nat.zero_le _,rfl,Below.refl _ _⟩
 case round =>
  obtain ⟨k,hk,rfl,hB⟩:=hrel
  have hkn:k < n:=by omega
  have f0:=cell_later (HC.out k hkn).1.1 hB
  by_cases hki:k=i
  · subst hki
    have s1:=str_yes HE.out
    go_wp2
    try rw [Exit.noGoto_ret]
    exact bodyPost_ret (v:=.tuple #[.int .i64 k,.bool true]) (by simp [results,Tryz.results83,go_sem]) rfl ⟨rfl,hB⟩
  · have s1:=str_not (HL.out k (by omega))
    go_wp2
    go_roundw
    case rel=>exact ⟨k+1,by omega,by go_num,hB⟩
    case measure=>simp [intOf];omega
theorem refFind_none (a:Option Addr) (n cap:Nat) (Nm:Nat→ByteArray) (V:Nat→Value) (s:ByteArray) (w:World) (H:Row2 w a n Nm V) (hn:n≤9223372036854775807) (hl:∀ j,j < n→¬ Nm j=s) :
 Calls Tryz.prog 83 #[.slice a n cap,.string s] w (RV (.tuple #[.int .i64 0,.bool false]) w):=by
 have HC:=hid H
 have HL:=hid hl
 clear H hl
 go_enter Tryz.func83,Tryz.ntmps83
 go_wp2
 go_loopw [6] (fun v wr=>∃ k:Nat,k≤n∧v=.int .i64 k∧Below w.heap.size w wr) (fun v _=>n - (intOf v).toNat)
 case atStart=>exact ⟨0,Nat.zero_le _,rfl,Below.refl _ _⟩
 case round =>
  obtain ⟨k,hk,rfl,hB⟩:=hrel
  by_cases hkn:k < n
  · obtain ⟨b,off,rfl,hc⟩:=HC.out (by omega)
    have f0:=cell_later (hc k hkn).1.1 hB
    have s1:=str_not (HL.out k hkn)
    clear hc
    go_wp2
    go_roundw
    case rel=>exact ⟨k+1,by omega,by go_num,hB⟩
    case measure=>simp [intOf];omega
  · go_wp2
    exact bodyPost_ret (v:=.tuple #[.int .i64 0,.bool false]) (by simp [results,Tryz.results83,go_sem]) rfl ⟨rfl,hB⟩
theorem refField_some (S:ByteArray) (a:Option Addr) (n cap i:Nat) (Nm:Nat→ByteArray) (K:Nat→Int) (s:ByteArray) (w:World) (H:Flds w a n Nm K) (hn:n≤9223372036854775807) (hi:i < n) (he:Nm i=s) (hl:∀ j,j < i→¬ Nm j=s) :
 Calls Tryz.prog 86 #[schV S (.slice a n cap),.string s] w (RV (.tuple #[.int .i64 i,.int .i64 (K i),.bool true]) w):=by
 obtain ⟨b,off,rfl,hc⟩:=H (by omega)
 obtain ⟨a,ha⟩:∃ a,a=some (⟨b,off,none⟩:Addr):=⟨_,rfl⟩
 have HC:=hid hc
 have HE:=hid he
 have HL:=hid hl
 rw [← ha]
 have hB0:Below w.heap.size w (w.alloc (schO S (.slice a n cap))):=nwB _ _
 have HX:Hid ((w.alloc (schO S (.slice a n cap))).cell? ⟨w.heap.size,1,none⟩=some (.slice a n cap)):=by
  show (w.alloc (schO S (.slice a n cap))).cell? ⟨w.heap.size,1,none⟩=some (.slice a n cap)
  rw [World.cell?_alloc_at _ _ _ _ rfl];rfl
 rw [ha] at hB0 HX
 subst ha
 clear H hc he hl
 go_enter Tryz.func86,Tryz.ntmps86
 go_upto_region 1 with fail
 obtain ⟨W,hW⟩:∃ W,W=(w.alloc (schO S (.slice (some ⟨b,off,none⟩) n cap))):=⟨_,rfl⟩
 obtain ⟨bs,hbs⟩:∃ bs,bs=w.heap.size:=⟨_,rfl⟩
 rw [← hW,← hbs] at HX
 rw [← hW] at hB0
 rw [← hW,← hbs]
 clear hW hbs
 go_wp2_with fail
 go_loopw [7] (fun v wr=>∃ k:Nat,k≤i∧v=.int .i64 k∧Below W.heap.size W wr) (fun v _=>i - (intOf v).toNat)
 case atStart=>exact ⟨0,Nat.zero_le _,rfl,Below.refl _ _⟩
 case round =>
  obtain ⟨k,hk,rfl,hB⟩:=hrel
  have hkn:k < n:=by omega
  have f0:=cell_later (cell_later (HC.out k hkn).1.1 hB0) hB
  have f1:wr.cell? ⟨b,off+k * 2+1,none⟩=some (.int .i64 (K k)):=cell_later (cell_later (HC.out k hkn).1.2 hB0) hB
  have x1:=cell_later HX.out hB
  by_cases hki:k=i
  · subst hki
    have s1:=str_yes HE.out
    go_wp2_with fail
    go_quiet (fail)
    go_wp2
    try rw [Exit.noGoto_ret]
    exact bodyPost_ret (v:=.tuple #[.int .i64 k,.int .i64 (K k),.bool true]) (by simp [results,Tryz.results86,go_sem]) rfl ⟨rfl,bt hB0 (bd hB _)⟩
  · have s1:=str_not (HL.out k (by omega))
    go_wp2
    go_roundw
    case rel=>exact ⟨k+1,by omega,by go_num,hB⟩
    case measure=>simp [intOf];omega
theorem refField_none (S:ByteArray) (a:Option Addr) (n cap:Nat) (Nm:Nat→ByteArray) (K:Nat→Int) (s:ByteArray) (w:World) (H:Flds w a n Nm K) (hn:n≤9223372036854775807) (hl:∀ j,j < n→¬ Nm j=s) :
 Calls Tryz.prog 86 #[schV S (.slice a n cap),.string s] w (RV (.tuple #[.int .i64 0,.int .i64 0,.bool false]) w):=by
 have HC:=hid H
 have HL:=hid hl
 have hB0:Below w.heap.size w (w.alloc (schO S (.slice a n cap))):=nwB _ _
 have HX:Hid ((w.alloc (schO S (.slice a n cap))).cell? ⟨w.heap.size,1,none⟩=some (.slice a n cap)):=by
  show (w.alloc (schO S (.slice a n cap))).cell? ⟨w.heap.size,1,none⟩=some (.slice a n cap)
  rw [World.cell?_alloc_at _ _ _ _ rfl];rfl
 clear H hl
 go_enter Tryz.func86,Tryz.ntmps86
 go_upto_region 1 with fail
 obtain ⟨W,hW⟩:∃ W,W=(w.alloc (schO S (.slice a n cap))):=⟨_,rfl⟩
 obtain ⟨bs,hbs⟩:∃ bs,bs=w.heap.size:=⟨_,rfl⟩
 rw [← hW,← hbs] at HX
 rw [← hW] at hB0
 rw [← hW,← hbs]
 clear hW hbs
 go_wp2_with fail
 go_loopw [7] (fun v wr=>∃ k:Nat,k≤n∧v=.int .i64 k∧Below W.heap.size W wr) (fun v _=>n - (intOf v).toNat)
 case atStart=>exact ⟨0,Nat.zero_le _,rfl,Below.refl _ _⟩
 case round =>
  obtain ⟨k,hk,rfl,hB⟩:=hrel
  have x1:=cell_later HX.out hB
  by_cases hkn:k < n
  · obtain ⟨b,off,rfl,hc⟩:=HC.out (by omega)
    have f0:=cell_later (cell_later (hc k hkn).1.1 hB0) hB
    have s1:=str_not (HL.out k hkn)
    clear hc
    go_wp2
    go_roundw
    case rel=>exact ⟨k+1,by omega,by go_num,hB⟩
    case measure=>simp [intOf];omega
  · go_wp2
    exact bodyPost_ret (v:=.tuple #[.int .i64 0,.int .i64 0,.bool false]) (by simp [results,Tryz.results86,go_sem]) rfl ⟨rfl,bt hB0 hB⟩
def Keep (t:TypeId) (w w':World):Prop:=∀ (k:Nat) (c:Array Value) (f:Nat × Nat),w.heap[k]? = some (.cells c t f)→w'.heap[k]? = some (.cells c t f)
def Box2 (t:TypeId) (w:World) (b:Nat) (x y:Value):Prop:=w.heap[b]? = some (.cells #[x,y] t)
theorem Box2.keep {t:TypeId} {w w':World} {b:Nat} {x y:Value} (h:Box2 t w b x y) (hk:Keep t w w'):Box2 t w' b x y:=hk _ _ _ h
theorem Box2.new (t:TypeId) (w:World) (x y:Value):Box2 t (w.alloc (.cells #[x,y] t)) w.heap.size x y:=heap_alloc_new w _
theorem Box2.cells {t:TypeId} {w:World} {b:Nat} {x y:Value} (h:Box2 t w b x y):w.cell? ⟨b,0,none⟩=some x∧w.cell? ⟨b,1,none⟩=some y:=by
 unfold Box2 at h
 refine ⟨?_,?_⟩ <;> simp [World.cell?,h]
theorem Box2.frozen {t:TypeId} {w:World} {b:Nat} {x y:Value} (h:Box2 t w b x y) (i:Nat):w.frozen? ⟨b,i,none⟩=false:=by
 unfold Box2 at h
 simp [World.frozen?,h]
theorem Box2.lt {t:TypeId} {w:World} {b:Nat} {x y:Value} (h:Box2 t w b x y):b < w.heap.size:=(Array.getElem?_eq_some_iff.1 h).1
theorem Box2.other {t:TypeId} {w:World} {b:Nat} {x y:Value} (h:Box2 t w b x y) (a:Addr) (z:Value) (hne:b ≠ a.block):Box2 t (w.setCell a z) b x y:=by
 unfold Box2 at h ⊢
 rw [Below.heap_setCell _ _ _ _ hne,h]
end Go.Proofs.YtkfpgkohkhhlhaaGreatDoor
