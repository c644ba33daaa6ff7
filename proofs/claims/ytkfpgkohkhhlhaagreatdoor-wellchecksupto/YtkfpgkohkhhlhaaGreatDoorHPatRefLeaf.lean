/- Texts that the last one stands on. -/
import Derived.Test.YtkfpgkohkhhlhaaGreatDoorHPatRefOnce
import Derived.Test.YtkfpgkohkhhlhaaGreatDoorHVarsMath
import Derived.Test.YtkfpgkohkhhlhaaGreatDoorHPatVars
set_option maxRecDepth 100000
set_option maxHeartbeats 16000000
namespace Go.Proofs.YtkfpgkohkhhlhaaGreatDoor
open Go.RowKit
theorem rightN_leaf {x:Pt} (hrow:isRow x.k=false):rightN x=(x.n == 0 && (nameB x.s && (nameB x.t && (if x.k=5 then cntB x.lo x.hi else ((x.k == 1 || x.k == 6) && (x.lo == 0 && x.hi == 0)))))):=by
 unfold rightN
 rw [if_neg (by rw [hrow];simp)]
 by_cases h5:x.k=5
 · rw [if_pos h5,if_pos h5]
   unfold manyB
   cases nameB x.s <;> cases nameB x.t <;> cases cntB x.lo x.hi <;> simp
 · rw [if_neg h5,if_neg h5]
   by_cases h16:x.k=1 ∨ x.k=6
   · rw [if_pos h16]
     have:(x.k == 1 || x.k == 6)=true:=by simpa using h16
     rw [this]
     unfold leafB
     cases nameB x.s <;> cases nameB x.t <;> cases (x.lo == 0) <;> cases (x.hi == 0) <;> simp
   · rw [if_neg h16]
     have:(x.k == 1 || x.k == 6)=false:=by simpa using h16
     rw [this]
     simp
theorem refRight_leaf0 (x:Pt) (w:World) (hs1:x.s.size≤maxLen) (hs2:x.t.size≤maxLen) (_:x.n≤9223372036854775807) (hrow:isRow x.k=false) (h:(x.n == 0 && (nameB x.s && nameB x.t))=false) :
 Calls Tryz.prog 127 #[x.val] w (RV (.bool false) w):=by
 obtain ⟨A,hA,hB,hs,hn⟩:=boxP_one x w
 obtain ⟨a0,a1,a2,a3,a4,a5⟩:=hn.at0
 have HB:=hid hB
 have HN:=hid hn
 have hR:=refRow_any x A
 rw [hrow] at hR
 have N1:=fun d=>refName_any x.s d hs1
 have N2:=fun d=>refName_any x.t d hs2
 clear hB hn hrow hs1 hs2
 cases h0:x.n == 0
 · have t0:(((x.n:Nat):Int) != 0)=true:=by simpa using h0
   clear h h0
   go_enter Tryz.func127,Tryz.ntmps127
   go_wp2_with (go_at_call 155;refine hR.mono ?_;clear hR;rintro e w1 ⟨rfl,hB1⟩;obtain ⟨b0,b1,b2,b3,b4,b5⟩:=(HN.out.later hB1).at0)
   all_goals first
    | (rename_i q1 q2;cases q1;done)
    | (go_ret;exact ⟨rfl,HB.out.trans (hB1.mono HB.out.size)⟩)
 · have t0:(((x.n:Nat):Int) != 0)=false:=by simpa using h0
   cases h1:nameB x.s
   · rw [h1] at N1
     clear h h0
     go_enter Tryz.func127,Tryz.ntmps127
     go_wp2_with (first
      | (go_at_call 155;refine hR.mono ?_;clear hR;rintro e w1 ⟨rfl,hB1⟩;obtain ⟨b0,b1,b2,b3,b4,b5⟩:=(HN.out.later hB1).at0)
      | (go_at_call 77;refine (N1 _).mono ?_;rintro e w2 ⟨rfl,rfl⟩))
     all_goals first
      | (rename_i q1 q2;cases q1;done)
      | (go_ret;exact ⟨rfl,HB.out.trans (hB1.mono HB.out.size)⟩)
   · have h2:nameB x.t=false:=by rw [h0,h1] at h;simpa using h
     rw [h1] at N1
     rw [h2] at N2
     clear h h0 h1 h2
     go_enter Tryz.func127,Tryz.ntmps127
     go_wp2_with (first
      | (go_at_call 155;refine hR.mono ?_;clear hR;rintro e w1 ⟨rfl,hB1⟩;obtain ⟨b0,b1,b2,b3,b4,b5⟩:=(HN.out.later hB1).at0)
      | (go_at_call 77;refine (N1 _).mono ?_;clear N1;rintro e w2 ⟨rfl,rfl⟩)
      | (go_at_call 77;refine (N2 _).mono ?_;rintro e w2 ⟨rfl,rfl⟩))
     all_goals first
      | (rename_i q1 q2;cases q1;done)
      | (go_ret;exact ⟨rfl,HB.out.trans (hB1.mono HB.out.size)⟩)
theorem refRight_leaf1 (x:Pt) (w:World) (hs1:x.s.size≤maxLen) (hs2:x.t.size≤maxLen) (hrow:isRow x.k=false) (h0:x.n=0) (h1:nameB x.s=true) (h2:nameB x.t=true) (h5:(x.k == 5)=false) :
 Calls Tryz.prog 127 #[x.val] w (RV (.bool ((x.k == 1 || x.k == 6) && (x.lo == 0 && x.hi == 0))) w):=by
 obtain ⟨A,hA,hB,hs,hn⟩:=boxP_one x w
 obtain ⟨a0,a1,a2,a3,a4,a5⟩:=hn.at0
 have HB:=hid hB
 have HN:=hid hn
 have hR:=refRow_any x A
 rw [hrow] at hR
 have N1:=fun d=>refName_any x.s d hs1
 have N2:=fun d=>refName_any x.t d hs2
 rw [h1] at N1
 rw [h2] at N2
 have t0:(((x.n:Nat):Int) != 0)=false:=by simp [h0]
 clear hB hn hrow hs1 hs2 h0 h1 h2
 cases k1:x.k == 1
 · cases k6:x.k == 6
   · go_enter Tryz.func127,Tryz.ntmps127
     go_wp2_with (first
      | (go_at_call 155;refine hR.mono ?_;clear hR;rintro e w1 ⟨rfl,hB1⟩;obtain ⟨b0,b1,b2,b3,b4,b5⟩:=(HN.out.later hB1).at0)
      | (go_at_call 77;refine (N1 _).mono ?_;clear N1;rintro e w2 ⟨rfl,rfl⟩)
      | (go_at_call 77;refine (N2 _).mono ?_;clear N2;rintro e w2 ⟨rfl,rfl⟩))
     all_goals first
      | (rename_i q1 q2;cases q1;done)
      | (go_ret;exact ⟨rfl,HB.out.trans (hB1.mono HB.out.size)⟩)
   · cases l0:x.lo == 0
     · go_enter Tryz.func127,Tryz.ntmps127
       go_wp2_with (first
        | (go_at_call 155;refine hR.mono ?_;clear hR;rintro e w1 ⟨rfl,hB1⟩;obtain ⟨b0,b1,b2,b3,b4,b5⟩:=(HN.out.later hB1).at0)
        | (go_at_call 77;refine (N1 _).mono ?_;clear N1;rintro e w2 ⟨rfl,rfl⟩)
        | (go_at_call 77;refine (N2 _).mono ?_;clear N2;rintro e w2 ⟨rfl,rfl⟩))
       all_goals first
        | (rename_i q1 q2;cases q1;done)
        | (go_ret;exact ⟨rfl,HB.out.trans (hB1.mono HB.out.size)⟩)
     · cases i0:x.hi == 0
       · go_enter Tryz.func127,Tryz.ntmps127
         go_wp2_with (first
          | (go_at_call 155;refine hR.mono ?_;clear hR;rintro e w1 ⟨rfl,hB1⟩;obtain ⟨b0,b1,b2,b3,b4,b5⟩:=(HN.out.later hB1).at0)
          | (go_at_call 77;refine (N1 _).mono ?_;clear N1;rintro e w2 ⟨rfl,rfl⟩)
          | (go_at_call 77;refine (N2 _).mono ?_;clear N2;rintro e w2 ⟨rfl,rfl⟩))
         all_goals first
          | (rename_i q1 q2;cases q1;done)
          | (go_ret;exact ⟨rfl,HB.out.trans (hB1.mono HB.out.size)⟩)
       · go_enter Tryz.func127,Tryz.ntmps127
         go_wp2_with (first
          | (go_at_call 155;refine hR.mono ?_;clear hR;rintro e w1 ⟨rfl,hB1⟩;obtain ⟨b0,b1,b2,b3,b4,b5⟩:=(HN.out.later hB1).at0)
          | (go_at_call 77;refine (N1 _).mono ?_;clear N1;rintro e w2 ⟨rfl,rfl⟩)
          | (go_at_call 77;refine (N2 _).mono ?_;clear N2;rintro e w2 ⟨rfl,rfl⟩))
         all_goals first
          | (rename_i q1 q2;cases q1;done)
          | (go_ret;exact ⟨rfl,HB.out.trans (hB1.mono HB.out.size)⟩)
 · cases l0:x.lo == 0
   · go_enter Tryz.func127,Tryz.ntmps127
     go_wp2_with (first
      | (go_at_call 155;refine hR.mono ?_;clear hR;rintro e w1 ⟨rfl,hB1⟩;obtain ⟨b0,b1,b2,b3,b4,b5⟩:=(HN.out.later hB1).at0)
      | (go_at_call 77;refine (N1 _).mono ?_;clear N1;rintro e w2 ⟨rfl,rfl⟩)
      | (go_at_call 77;refine (N2 _).mono ?_;clear N2;rintro e w2 ⟨rfl,rfl⟩))
     all_goals first
      | (rename_i q1 q2;cases q1;done)
      | (go_ret;exact ⟨rfl,HB.out.trans (hB1.mono HB.out.size)⟩)
   · cases i0:x.hi == 0
     · go_enter Tryz.func127,Tryz.ntmps127
       go_wp2_with (first
        | (go_at_call 155;refine hR.mono ?_;clear hR;rintro e w1 ⟨rfl,hB1⟩;obtain ⟨b0,b1,b2,b3,b4,b5⟩:=(HN.out.later hB1).at0)
        | (go_at_call 77;refine (N1 _).mono ?_;clear N1;rintro e w2 ⟨rfl,rfl⟩)
        | (go_at_call 77;refine (N2 _).mono ?_;clear N2;rintro e w2 ⟨rfl,rfl⟩))
       all_goals first
        | (rename_i q1 q2;cases q1;done)
        | (go_ret;exact ⟨rfl,HB.out.trans (hB1.mono HB.out.size)⟩)
     · go_enter Tryz.func127,Tryz.ntmps127
       go_wp2_with (first
        | (go_at_call 155;refine hR.mono ?_;clear hR;rintro e w1 ⟨rfl,hB1⟩;obtain ⟨b0,b1,b2,b3,b4,b5⟩:=(HN.out.later hB1).at0)
        | (go_at_call 77;refine (N1 _).mono ?_;clear N1;rintro e w2 ⟨rfl,rfl⟩)
        | (go_at_call 77;refine (N2 _).mono ?_;clear N2;rintro e w2 ⟨rfl,rfl⟩))
       all_goals first
        | (rename_i q1 q2;cases q1;done)
        | (go_ret;exact ⟨rfl,HB.out.trans (hB1.mono HB.out.size)⟩)
theorem refRight_leaf5 (x:Pt) (w:World) (hs1:x.s.size≤maxLen) (hs2:x.t.size≤maxLen) (hrow:isRow x.k=false) (h0:x.n=0) (h1:nameB x.s=true) (h2:nameB x.t=true) (h5:(x.k == 5)=true) :
 Calls Tryz.prog 127 #[x.val] w (RV (.bool (cntB x.lo x.hi)) w):=by
 obtain ⟨A,hA,hB,hs,hn⟩:=boxP_one x w
 obtain ⟨a0,a1,a2,a3,a4,a5⟩:=hn.at0
 have HB:=hid hB
 have HN:=hid hn
 have hR:=refRow_any x A
 rw [hrow] at hR
 have N1:=fun d=>refName_any x.s d hs1
 have N2:=fun d=>refName_any x.t d hs2
 rw [h1] at N1
 rw [h2] at N2
 have t0:(((x.n:Nat):Int) != 0)=false:=by simp [h0]
 clear hB hn hrow hs1 hs2 h0 h1 h2
 by_cases c1:1≤x.lo
 · by_cases c2:x.lo≤1000
   · cases c3:x.hi == 0
     · by_cases c4:x.lo≤x.hi
       · by_cases c5:x.hi≤1000
         · cases c6:x.lo == 1
           · have HE:Hid (cntB x.lo x.hi=true):=by show cntB x.lo x.hi=true;unfold cntB;simp [c1,c2,c3,c4,c5,c6]
             go_enter Tryz.func127,Tryz.ntmps127
             go_wp2_with (first
              | (go_at_call 155;refine hR.mono ?_;clear hR;rintro e w1 ⟨rfl,hB1⟩;obtain ⟨b0,b1,b2,b3,b4,b5⟩:=(HN.out.later hB1).at0)
              | (go_at_call 77;refine (N1 _).mono ?_;clear N1;rintro e w2 ⟨rfl,rfl⟩)
              | (go_at_call 77;refine (N2 _).mono ?_;clear N2;rintro e w2 ⟨rfl,rfl⟩))
             all_goals first
              | (rename_i q1 q2;cases q1;done)
              | (go_ret;exact ⟨by rw [HE.out];rfl,HB.out.trans (hB1.mono HB.out.size)⟩)
           · cases c7:x.hi == 1
             · have HE:Hid (cntB x.lo x.hi=true):=by show cntB x.lo x.hi=true;unfold cntB;simp [c1,c2,c3,c4,c5,c6,c7]
               go_enter Tryz.func127,Tryz.ntmps127
               go_wp2_with (first
                | (go_at_call 155;refine hR.mono ?_;clear hR;rintro e w1 ⟨rfl,hB1⟩;obtain ⟨b0,b1,b2,b3,b4,b5⟩:=(HN.out.later hB1).at0)
                | (go_at_call 77;refine (N1 _).mono ?_;clear N1;rintro e w2 ⟨rfl,rfl⟩)
                | (go_at_call 77;refine (N2 _).mono ?_;clear N2;rintro e w2 ⟨rfl,rfl⟩))
               all_goals first
                | (rename_i q1 q2;cases q1;done)
                | (go_ret;exact ⟨by rw [HE.out];rfl,HB.out.trans (hB1.mono HB.out.size)⟩)
             · have HE:Hid (cntB x.lo x.hi=false):=by show cntB x.lo x.hi=false;unfold cntB;simp [c1,c2,c3,c4,c5,c6,c7]
               go_enter Tryz.func127,Tryz.ntmps127
               go_wp2_with (first
                | (go_at_call 155;refine hR.mono ?_;clear hR;rintro e w1 ⟨rfl,hB1⟩;obtain ⟨b0,b1,b2,b3,b4,b5⟩:=(HN.out.later hB1).at0)
                | (go_at_call 77;refine (N1 _).mono ?_;clear N1;rintro e w2 ⟨rfl,rfl⟩)
                | (go_at_call 77;refine (N2 _).mono ?_;clear N2;rintro e w2 ⟨rfl,rfl⟩))
               all_goals first
                | (rename_i q1 q2;cases q1;done)
                | (go_ret;exact ⟨by rw [HE.out];rfl,HB.out.trans (hB1.mono HB.out.size)⟩)
         · have HE:Hid (cntB x.lo x.hi=false):=by show cntB x.lo x.hi=false;unfold cntB;simp [c1,c2,c3,c4,c5]
           go_enter Tryz.func127,Tryz.ntmps127
           go_wp2_with (first
            | (go_at_call 155;refine hR.mono ?_;clear hR;rintro e w1 ⟨rfl,hB1⟩;obtain ⟨b0,b1,b2,b3,b4,b5⟩:=(HN.out.later hB1).at0)
            | (go_at_call 77;refine (N1 _).mono ?_;clear N1;rintro e w2 ⟨rfl,rfl⟩)
            | (go_at_call 77;refine (N2 _).mono ?_;clear N2;rintro e w2 ⟨rfl,rfl⟩))
           all_goals first
            | (rename_i q1 q2;cases q1;done)
            | (go_ret;exact ⟨by rw [HE.out];rfl,HB.out.trans (hB1.mono HB.out.size)⟩)
       · have HE:Hid (cntB x.lo x.hi=false):=by show cntB x.lo x.hi=false;unfold cntB;simp [c1,c2,c3,c4]
         go_enter Tryz.func127,Tryz.ntmps127
         go_wp2_with (first
          | (go_at_call 155;refine hR.mono ?_;clear hR;rintro e w1 ⟨rfl,hB1⟩;obtain ⟨b0,b1,b2,b3,b4,b5⟩:=(HN.out.later hB1).at0)
          | (go_at_call 77;refine (N1 _).mono ?_;clear N1;rintro e w2 ⟨rfl,rfl⟩)
          | (go_at_call 77;refine (N2 _).mono ?_;clear N2;rintro e w2 ⟨rfl,rfl⟩))
         all_goals first
          | (rename_i q1 q2;cases q1;done)
          | (go_ret;exact ⟨by rw [HE.out];rfl,HB.out.trans (hB1.mono HB.out.size)⟩)
     · cases c6:x.lo == 1
       · have HE:Hid (cntB x.lo x.hi=true):=by show cntB x.lo x.hi=true;unfold cntB;simp [c1,c2,c3,c6]
         go_enter Tryz.func127,Tryz.ntmps127
         go_wp2_with (first
          | (go_at_call 155;refine hR.mono ?_;clear hR;rintro e w1 ⟨rfl,hB1⟩;obtain ⟨b0,b1,b2,b3,b4,b5⟩:=(HN.out.later hB1).at0)
          | (go_at_call 77;refine (N1 _).mono ?_;clear N1;rintro e w2 ⟨rfl,rfl⟩)
          | (go_at_call 77;refine (N2 _).mono ?_;clear N2;rintro e w2 ⟨rfl,rfl⟩))
         all_goals first
          | (rename_i q1 q2;cases q1;done)
          | (go_ret;exact ⟨by rw [HE.out];rfl,HB.out.trans (hB1.mono HB.out.size)⟩)
       · have c7:(x.hi == 1)=false:=by simp at c3 ⊢;omega
         have HE:Hid (cntB x.lo x.hi=true):=by show cntB x.lo x.hi=true;unfold cntB;simp [c1,c2,c3,c6,c7]
         go_enter Tryz.func127,Tryz.ntmps127
         go_wp2_with (first
          | (go_at_call 155;refine hR.mono ?_;clear hR;rintro e w1 ⟨rfl,hB1⟩;obtain ⟨b0,b1,b2,b3,b4,b5⟩:=(HN.out.later hB1).at0)
          | (go_at_call 77;refine (N1 _).mono ?_;clear N1;rintro e w2 ⟨rfl,rfl⟩)
          | (go_at_call 77;refine (N2 _).mono ?_;clear N2;rintro e w2 ⟨rfl,rfl⟩))
         all_goals first
          | (rename_i q1 q2;cases q1;done)
          | (go_ret;exact ⟨by rw [HE.out];rfl,HB.out.trans (hB1.mono HB.out.size)⟩)
   · have HE:Hid (cntB x.lo x.hi=false):=by show cntB x.lo x.hi=false;unfold cntB;simp [c1,c2]
     go_enter Tryz.func127,Tryz.ntmps127
     go_wp2_with (first
      | (go_at_call 155;refine hR.mono ?_;clear hR;rintro e w1 ⟨rfl,hB1⟩;obtain ⟨b0,b1,b2,b3,b4,b5⟩:=(HN.out.later hB1).at0)
      | (go_at_call 77;refine (N1 _).mono ?_;clear N1;rintro e w2 ⟨rfl,rfl⟩)
      | (go_at_call 77;refine (N2 _).mono ?_;clear N2;rintro e w2 ⟨rfl,rfl⟩))
     all_goals first
      | (rename_i q1 q2;cases q1;done)
      | (go_ret;exact ⟨by rw [HE.out];rfl,HB.out.trans (hB1.mono HB.out.size)⟩)
 · have HE:Hid (cntB x.lo x.hi=false):=by show cntB x.lo x.hi=false;unfold cntB;simp [c1]
   go_enter Tryz.func127,Tryz.ntmps127
   go_wp2_with (first
    | (go_at_call 155;refine hR.mono ?_;clear hR;rintro e w1 ⟨rfl,hB1⟩;obtain ⟨b0,b1,b2,b3,b4,b5⟩:=(HN.out.later hB1).at0)
    | (go_at_call 77;refine (N1 _).mono ?_;clear N1;rintro e w2 ⟨rfl,rfl⟩)
    | (go_at_call 77;refine (N2 _).mono ?_;clear N2;rintro e w2 ⟨rfl,rfl⟩))
   all_goals first
    | (rename_i q1 q2;cases q1;done)
    | (go_ret;exact ⟨by rw [HE.out];rfl,HB.out.trans (hB1.mono HB.out.size)⟩)
theorem refRight_leaf (x:Pt) (w:World) (hs1:x.s.size≤maxLen) (hs2:x.t.size≤maxLen) (hl:x.n≤9223372036854775807) (hrow:isRow x.k=false) :
 Calls Tryz.prog 127 #[x.val] w (RV (.bool (rightN x)) w):=by
 rw [rightN_leaf hrow]
 cases h:x.n == 0 && (nameB x.s && nameB x.t) with
 | false =>
   have:=refRight_leaf0 x w hs1 hs2 hl hrow h
   have e:(x.n == 0 && (nameB x.s && (nameB x.t && (if x.k=5 then cntB x.lo x.hi else ((x.k == 1 || x.k == 6) && (x.lo == 0 && x.hi == 0))))))=false:=by
    rw [← Bool.and_assoc (nameB x.s),← Bool.and_assoc,h,Bool.false_and]
   rw [e]
   exact this
 | true =>
   simp only [Bool.and_eq_true] at h
   obtain ⟨h0,h1,h2⟩:=h
   have h0':x.n=0:=by simpa using h0
   rw [h0,h1,h2,Bool.true_and,Bool.true_and,Bool.true_and]
   by_cases h5:x.k=5
   · rw [if_pos h5]
     exact refRight_leaf5 x w hs1 hs2 hrow h0' h1 h2 (by simp [h5])
   · rw [if_neg h5]
     exact refRight_leaf1 x w hs1 hs2 hrow h0' h1 h2 (by simp [h5])
theorem row_false {x:Pt} (hrow:isRow x.k=true) (h:¬ (emptyB x.s=true∧emptyB x.t=true∧x.lo=0∧x.hi=0∧2≤x.n)):rightP x=false:=by
 rw [Bool.eq_false_iff]
 intro e
 rw [rightP_eq,Bool.and_eq_true] at e
 have e1:=e.1
 unfold rightN at e1
 rw [if_pos hrow] at e1
 unfold rowB at e1
 simp only [Bool.and_eq_true,beq_iff_eq,decide_eq_true_eq] at e1
 exact h ⟨e1.1,e1.2.1,e1.2.2.1,e1.2.2.2.1,e1.2.2.2.2.1⟩
theorem row_part {x:Pt} (hrow:isRow x.k=true) {i:Nat} (hi:i < x.n) (h:¬ ((x.c i).k ≠ x.k∧rightP (x.c i)=true)):rightP x=false:=by
 rw [Bool.eq_false_iff]
 intro e
 rw [rightP_eq,Bool.and_eq_true,allN_true] at e
 have e1:=e.1
 unfold rightN at e1
 rw [if_pos hrow] at e1
 unfold rowB ownB at e1
 simp only [Bool.and_eq_true,Bool.not_not,allN_true] at e1
 have e2:=e1.2.2.2.2.2 i hi
 refine h ⟨fun q=>?_,e.2 i hi⟩
 rw [q] at e2
 simp at e2
theorem row_true {x:Pt} (hrow:isRow x.k=true) (h:emptyB x.s=true∧emptyB x.t=true∧x.lo=0∧x.hi=0∧2≤x.n) (hp:∀ i,i < x.n→(x.c i).k ≠ x.k∧rightP (x.c i)=true):rightP x=true:=by
 obtain ⟨h1,h2,h3,h4,h5⟩:=h
 rw [rightP_eq,Bool.and_eq_true,allN_true]
 refine ⟨?_,fun i hi=>(hp i hi).2⟩
 unfold rightN
 rw [if_pos hrow]
 unfold rowB ownB
 simp only [Bool.and_eq_true,Bool.not_not,allN_true,beq_iff_eq,decide_eq_true_eq]
 refine ⟨h1,h2,h3,h4,h5,fun i hi=>?_⟩
 have:=(hp i hi).1
 simpa using this
theorem refRight_row (x:Pt) (w:World) (hX:IsP w x) (hrow:isRow x.k=true) (hh:emptyB x.s=true∧emptyB x.t=true∧x.lo=0∧x.hi=0∧2≤x.n)
 (ih:∀ i,i < x.n→∀ (w:World),IsP w (x.c i)→Calls Tryz.prog 127 #[(x.c i).val] w (RV (.bool (rightP (x.c i))) w)) :
 Calls Tryz.prog 127 #[x.val] w (RV (.bool (rightP x)) w):=by
 obtain ⟨r,hr⟩:∃ r,r=rightP x:=⟨_,rfl⟩
 have HF:Hid (∀ i,i < x.n→¬ ((x.c i).k ≠ x.k∧rightP (x.c i)=true)→r=false):=fun i hi h=>hr.trans (row_part hrow hi h)
 have HT:Hid ((∀ i,i < x.n→(x.c i).k ≠ x.k∧rightP (x.c i)=true)→r=true):=fun h=>hr.trans (row_true hrow hh h)
 rw [← hr]
 obtain ⟨A,hA,hB,hs,hn⟩:=boxP_one x w
 obtain ⟨a0,a1,a2,a3,a4,a5⟩:=hn.at0
 have HB:=hid hB
 have HN:=hid hn
 have hR:=refRow_any x A
 rw [hrow] at hR
 have HX:=hid hX
 have hlen:=hX.len
 have HI:Hid (∀ i,i < x.n→∀ W,Below w.heap.size w W→Calls Tryz.prog 127 #[(x.c i).val] W (RV (.bool (rightP (x.c i))) W)):=fun i hi W hW=>by
  obtain ⟨_,_,_,_,h1⟩:=(hX.later hW).part hi
  exact ih i hi W h1
 obtain ⟨h1,h2,h3,h4,h5⟩:=hh
 have t1:(x.s.toList == [])=true:=h1
 have t2:(x.t.toList == [])=true:=h2
 have t3:(x.lo != 0)=false:=by simp [h3]
 have t4:(x.hi != 0)=false:=by simp [h4]
 have t5:¬ (((x.n:Nat):Int) < 2):=by omega
 clear hB hn hX ih hr hrow h1 h2 h3 h4 h5 hs
 go_enter Tryz.func127,Tryz.ntmps127
 go_wp2_with (go_at_call 155;refine hR.mono ?_;clear hR;rintro e w1 ⟨rfl,hB1⟩;obtain ⟨b0,b1,b2,b3,b4,b5⟩:=(HN.out.later hB1).at0)
 have hw1:Below w.heap.size w w1:=HB.out.trans (hB1.mono HB.out.size)
 have HN1:Hid (NodeP w1 w.heap.size 0 x):=HN.out.later hB1
 clear HN a0 a1 a2 a3 a4 a5 b0 b1 b2 b3 b4 b5 t1 t2 t3 t4 t5 hB1 HB
 go_loopw [3] (fun u wr=>∃ k:Nat,k≤x.n∧u=.int .i64 k∧Hid (∀ i,i < k→(x.c i).k ≠ x.k∧rightP (x.c i)=true)∧Below w1.heap.size w1 wr) (fun u _=>x.n - (intOf u).toNat)
 case atStart=>exact ⟨0,Nat.zero_le _,rfl,fun i hi=>absurd hi (Nat.not_lt_zero _),Below.refl _ _⟩
 case round =>
  obtain ⟨k,hk,rfl,HK,hB⟩:=hrel
  have hw:=hw1.trans (hB.mono hw1.size)
  obtain ⟨c0,c1,c2,c3,c4,c5⟩:=(HN1.out.later hB).at0
  by_cases hkn:k < x.n
  · obtain ⟨b,o,ea,hn,-⟩:=(HX.out.later hw).part hkn
    rw [ea] at c5
    obtain ⟨d0,d1,d2,d3,d4,d5⟩:=hn
    have HKN:=hid hkn
    have HQ:=hid hw
    by_cases hkk:(x.c k).k=x.k
    · have t:((x.c k).k == x.k)=true:=by simpa using hkk
      have HE:Hid (r=false):=HF.out k hkn (fun q=>q.1 hkk)
      clear hw hkk ea
      go_wp2_with fail
      go_quiet (fail)
      go_wp2
      try rw [Exit.noGoto_ret]
      go_ret
      exact ⟨by rw [HE.out];rfl,bd HQ.out _⟩
    · have t:((x.c k).k == x.k)=false:=by simpa using hkk
      have hc:=HI.out k hkn wr.drew (hw.trans (Below.refl _ _).drew)
      have HKK:=hid hkk
      obtain ⟨z,hz⟩:∃ z,z=rightP (x.c k):=⟨_,rfl⟩
      rw [← hz] at hc
      have HE:=hid hz
      clear hw hz ea hkk
      go_wp2_with fail
      go_region_with (go_at_call 127;refine hc.mono ?_;clear hc;rintro e w2 ⟨rfl,hB2⟩)
      all_goals cases z
      all_goals go_wp2
      all_goals first
       | (go_ret;exact ⟨by rw [HF.out k HKN.out (fun q=>by have:=HE.out;rw [q.2] at this;cases this)];rfl,HQ.out.trans ((Below.refl _ _).drew.trans (hB2.mono (by have:=HQ.out.size;exact this)))⟩)
       | (go_roundw
          case rel =>
           refine ⟨k+1,HKN.out,by go_num,fun i hi=>?_,hB.trans ((Below.refl _ _).drew.trans (hB2.mono hB.size))⟩
           by_cases e:i=k
           · rw [e];exact ⟨HKK.out,HE.out.symm⟩
           · exact HK.out i (by omega)
          case measure=>have:=HKN.out;simp [intOf];omega)
  · obtain rfl:k=x.n:=by omega
    go_wp2
    go_ret
    exact ⟨by rw [HT.out HK.out];rfl,hw⟩
theorem refRight_no (x:Pt) (w:World) (hX:IsP w x) (hrow:isRow x.k=true) (h:¬ (emptyB x.s=true∧emptyB x.t=true∧x.lo=0∧x.hi=0∧2≤x.n)) :
 Calls Tryz.prog 127 #[x.val] w (RV (.bool false) w):=by
 obtain ⟨A,hA,hB,hs,hn⟩:=boxP_one x w
 obtain ⟨a0,a1,a2,a3,a4,a5⟩:=hn.at0
 have HB:=hid hB
 have HN:=hid hn
 have hR:=refRow_any x A
 rw [hrow] at hR
 have hlen:=hX.len
 clear hB hn hX hrow hs
 by_cases h1:emptyB x.s=true
 · have t1:(x.s.toList == [])=true:=h1
   by_cases h2:emptyB x.t=true
   · have t2:(x.t.toList == [])=true:=h2
     by_cases h3:x.lo=0
     · have t3:(x.lo != 0)=false:=by simp [h3]
       by_cases h4:x.hi=0
       · have t4:(x.hi != 0)=false:=by simp [h4]
         by_cases h5:2≤x.n
         · have t5:¬ (((x.n:Nat):Int) < 2):=by omega
           exact absurd ⟨h1,h2,h3,h4,h5⟩ h
         · have t5:(((x.n:Nat):Int) < 2):=by omega
           clear h h1 h2 h3 h4 h5
           go_enter Tryz.func127,Tryz.ntmps127
           go_wp2_with (go_at_call 155;refine hR.mono ?_;clear hR;rintro e w1 ⟨rfl,hB1⟩;obtain ⟨b0,b1,b2,b3,b4,b5⟩:=(HN.out.later hB1).at0)
           go_ret
           exact ⟨rfl,HB.out.trans (hB1.mono HB.out.size)⟩
       · have t4:(x.hi != 0)=true:=by simp [h4]
         clear h h1 h2 h3 h4
         go_enter Tryz.func127,Tryz.ntmps127
         go_wp2_with (go_at_call 155;refine hR.mono ?_;clear hR;rintro e w1 ⟨rfl,hB1⟩;obtain ⟨b0,b1,b2,b3,b4,b5⟩:=(HN.out.later hB1).at0)
         go_ret
         exact ⟨rfl,HB.out.trans (hB1.mono HB.out.size)⟩
     · have t3:(x.lo != 0)=true:=by simp [h3]
       clear h h1 h2 h3
       go_enter Tryz.func127,Tryz.ntmps127
       go_wp2_with (go_at_call 155;refine hR.mono ?_;clear hR;rintro e w1 ⟨rfl,hB1⟩;obtain ⟨b0,b1,b2,b3,b4,b5⟩:=(HN.out.later hB1).at0)
       go_ret
       exact ⟨rfl,HB.out.trans (hB1.mono HB.out.size)⟩
   · have t2:(x.t.toList == [])=false:=by unfold emptyB at h2;simpa using h2
     clear h h1 h2
     go_enter Tryz.func127,Tryz.ntmps127
     go_wp2_with (go_at_call 155;refine hR.mono ?_;clear hR;rintro e w1 ⟨rfl,hB1⟩;obtain ⟨b0,b1,b2,b3,b4,b5⟩:=(HN.out.later hB1).at0)
     go_ret
     exact ⟨rfl,HB.out.trans (hB1.mono HB.out.size)⟩
 · have t1:(x.s.toList == [])=false:=by unfold emptyB at h1;simpa using h1
   clear h h1
   go_enter Tryz.func127,Tryz.ntmps127
   go_wp2_with (go_at_call 155;refine hR.mono ?_;clear hR;rintro e w1 ⟨rfl,hB1⟩;obtain ⟨b0,b1,b2,b3,b4,b5⟩:=(HN.out.later hB1).at0)
   go_ret
   exact ⟨rfl,HB.out.trans (hB1.mono HB.out.size)⟩
theorem refRightP_any:∀ (x:Pt) (w:World),IsP w x→POk x→Calls Tryz.prog 127 #[x.val] w (RV (.bool (rightP x)) w):=by
 refine Pt.ind fun x ih w hX hok=>?_
 cases hrow:isRow x.k with
 | true =>
   by_cases h:emptyB x.s=true∧emptyB x.t=true∧x.lo=0∧x.hi=0∧2≤x.n
   · exact refRight_row x w hX hrow h fun i hi w' h'=>ih i hi w' h' (((pOk_eq x).1 hok).2.2 i hi)
   · rw [row_false hrow h]
     exact refRight_no x w hX hrow h
 | false =>
   have e:rightP x=rightN x:=by
    rw [rightP_eq]
    by_cases h0:x.n=0
    · rw [h0];simp [allN]
    · have:rightN x=false:=by
       rw [rightN_leaf hrow]
       have:(x.n == 0)=false:=by simpa using h0
       rw [this];rfl
      rw [this];rfl
   rw [e]
   exact refRight_leaf x w ((pOk_eq x).1 hok).1 ((pOk_eq x).1 hok).2.1 hX.len hrow
theorem refCheckP_any (x:Pt) (w:World) (hX:IsP w x) (hsm:x.size≤1048576) (hok:POk x):Calls Tryz.prog 76 #[x.val] w (RV (.int .i64 (chkP x)) w):=by
 obtain ⟨A,hA,hB,hs,hn⟩:=boxP_one x w
 obtain ⟨a0,a1,a2,a3,a4,a5⟩:=hn.at0
 have HB:=hid hB
 have HN:=hid hn
 have C1:Hid (Calls Tryz.prog 10 #[x.val] A _):=refSizeP_any x A (hX.later hB) hsm
 have C2:Hid (∀ d,Below A.heap.size A d→Calls Tryz.prog 126 #[x.val] d _):=fun d h=>refDeepP_any x d ((hX.later hB).later h) hsm
 have C3:Hid (∀ d,Below A.heap.size A d→Calls Tryz.prog 127 #[x.val] d _):=fun d h=>refRightP_any x d ((hX.later hB).later h) hok
 obtain ⟨r,hr⟩:∃ r,r=rightP x:=⟨_,rfl⟩
 rw [← hr] at C3
 have H1:Hid (64 < x.size→chkP x=2):=fun h=>by unfold chkP;rw [if_pos (.inl h)]
 have H2:Hid (8 < x.deep→chkP x=2):=fun h=>by unfold chkP;rw [if_pos (.inr h)]
 have H3:Hid (¬ 64 < x.size→¬ 8 < x.deep→chkP x=if r=true then 0 else 1):=fun h1 h2=>by unfold chkP;rw [if_neg (by omega),hr]
 obtain ⟨v,hv⟩:∃ v,v=chkP x:=⟨_,rfl⟩
 rw [← hv] at H1 H2 H3 ⊢
 obtain ⟨sz,hsz⟩:∃ sz,sz=x.size:=⟨_,rfl⟩
 obtain ⟨dp,hdp⟩:∃ dp,dp=x.deep:=⟨_,rfl⟩
 rw [← hsz] at H1 H3 C1
 rw [← hdp] at H2 H3 C2
 clear hX hok hB hn hs hr hv hsz hdp hsm
 by_cases h1:64 < sz
 · have t1:((64:Int) < ((sz:Nat):Int)):=by omega
   rw [H1.out h1]
   clear h1 H1 H2 H3
   go_enter Tryz.func76,Tryz.ntmps76
   go_wp2_with (first
    | (go_at_call 10;refine C1.out.mono ?_;rintro e w1 ⟨rfl,hB1⟩;obtain ⟨b0,b1,b2,b3,b4,b5⟩:=(HN.out.later hB1).at0)
    | (go_at_call 126;refine (C2.out _ hB1).mono ?_;rintro e w2 ⟨rfl,hB2⟩;have hB12:=hB1.trans (hB2.mono hB1.size);obtain ⟨c0,c1,c2,c3,c4,c5⟩:=(HN.out.later hB12).at0)
    | (go_at_call 127;refine (C3.out _ hB12).mono ?_;rintro e w3 ⟨rfl,hB3⟩))
   go_ret
   exact ⟨rfl,HB.out.trans (hB1.mono HB.out.size)⟩
 · have t1:¬ ((64:Int) < ((sz:Nat):Int)):=by omega
   by_cases h2:8 < dp
   · have t2:((8:Int) < ((dp:Nat):Int)):=by omega
     rw [H2.out h2]
     clear h1 h2 H1 H2 H3
     go_enter Tryz.func76,Tryz.ntmps76
     go_wp2_with (first
     | (go_at_call 10;refine C1.out.mono ?_;rintro e w1 ⟨rfl,hB1⟩;obtain ⟨b0,b1,b2,b3,b4,b5⟩:=(HN.out.later hB1).at0)
     | (go_at_call 126;refine (C2.out _ hB1).mono ?_;rintro e w2 ⟨rfl,hB2⟩;have hB12:=hB1.trans (hB2.mono hB1.size);obtain ⟨c0,c1,c2,c3,c4,c5⟩:=(HN.out.later hB12).at0)
     | (go_at_call 127;refine (C3.out _ hB12).mono ?_;rintro e w3 ⟨rfl,hB3⟩))
     go_ret
     exact ⟨rfl,HB.out.trans (hB12.mono HB.out.size)⟩
   · have t2:¬ ((8:Int) < ((dp:Nat):Int)):=by omega
     rw [H3.out h1 h2]
     clear h1 h2 H1 H2 H3
     cases r
     · go_enter Tryz.func76,Tryz.ntmps76
       go_wp2_with (first
     | (go_at_call 10;refine C1.out.mono ?_;rintro e w1 ⟨rfl,hB1⟩;obtain ⟨b0,b1,b2,b3,b4,b5⟩:=(HN.out.later hB1).at0)
     | (go_at_call 126;refine (C2.out _ hB1).mono ?_;rintro e w2 ⟨rfl,hB2⟩;have hB12:=hB1.trans (hB2.mono hB1.size);obtain ⟨c0,c1,c2,c3,c4,c5⟩:=(HN.out.later hB12).at0)
     | (go_at_call 127;refine (C3.out _ hB12).mono ?_;rintro e w3 ⟨rfl,hB3⟩))
       go_ret
       exact ⟨rfl,HB.out.trans ((hB12.trans (hB3.mono hB12.size)).mono HB.out.size)⟩
     · go_enter Tryz.func76,Tryz.ntmps76
       go_wp2_with (first
     | (go_at_call 10;refine C1.out.mono ?_;rintro e w1 ⟨rfl,hB1⟩;obtain ⟨b0,b1,b2,b3,b4,b5⟩:=(HN.out.later hB1).at0)
     | (go_at_call 126;refine (C2.out _ hB1).mono ?_;rintro e w2 ⟨rfl,hB2⟩;have hB12:=hB1.trans (hB2.mono hB1.size);obtain ⟨c0,c1,c2,c3,c4,c5⟩:=(HN.out.later hB12).at0)
     | (go_at_call 127;refine (C3.out _ hB12).mono ?_;rintro e w3 ⟨rfl,hB3⟩))
       go_ret
       exact ⟨rfl,HB.out.trans ((hB12.trans (hB3.mono hB12.size)).mono HB.out.size)⟩
theorem MadeZ.one {x:Pt} {r s:Int} (h:MadeZ x r) (g:MadeZ x s):r=s:=by
 rcases h with ⟨h1,h2⟩ | ⟨h1,h2,h3⟩ | ⟨h1,h2,h3⟩ <;> rcases g with ⟨g1,g2⟩ | ⟨g1,g2,g3⟩ | ⟨g1,g2,g3⟩ <;> first | omega | exact absurd ‹MadeP x› ‹¬ MadeP x›
theorem refMade_any (x:Pt) (w:World) (hX:IsP w x) (hsm:x.size≤1048576) (hok:POk x):Calls Tryz.prog 26 #[x.val] w fun e w'=>∃ z:Int,e=.returned (.int .i64 z)∧MadeZ x z∧Below w.heap.size w w':=by
 obtain ⟨A,hA,hB,hs,hn⟩:=boxP_one x w
 obtain ⟨a0,a1,a2,a3,a4,a5⟩:=hn.at0
 have HB:=hid hB
 have HN:=hid hn
 obtain ⟨c,hc⟩:∃ c,c=chkP x:=⟨_,rfl⟩
 have C1:Hid (Calls Tryz.prog 76 #[x.val] A (RV (.int .i64 c) A)):=by
  rw [hc]
  exact refCheckP_any x A (hX.later hB) hsm hok
 obtain ⟨b1,hb1⟩:∃ b1,b1=notsP x true:=⟨_,rfl⟩
 obtain ⟨b2,hb2⟩:∃ b2,b2=oncePB x:=⟨_,rfl⟩
 have C2:Hid (∀ d,Below A.heap.size A d→Calls Tryz.prog 80 #[x.val,.bool true] d (RV (.bool b1) d)):=fun d h=>by
  rw [hb1]
  exact refNots_any x true d ((hX.later hB).later h)
 have C3:Hid (∀ d,Below A.heap.size A d→Calls Tryz.prog 81 #[x.val] d (RV (.bool b2) d)):=fun d h=>by
  rw [hb2]
  exact refOnce_any x d ((hX.later hB).later h) hsm
 have HZ:Hid (¬ c=0→MadeZ x c):=fun h=>.inl ⟨hc ▸ h,hc⟩
 have HM:c=0→(MadeP x ↔ x.k ≠ 6∧b1=true∧b2=true):=fun h=>by
  have hr:=(chkP_zero.1 (hc.symm.trans h)).2.2
  rw [made_ref hr,hb1,hb2]
  constructor
  · rintro ⟨q1,q2,q3⟩
    exact ⟨q1,q2,oncePB_yes q3⟩
  · rintro ⟨q1,q2,q3⟩
    refine ⟨q1,q2,Classical.byContradiction fun q=>?_⟩
    rw [oncePB_no q] at q3
    cases q3
 have H0:Hid (c=0→x.k ≠ 6→b1=true→b2=true→MadeZ x 0):=fun h q1 q2 q3=>.inr (.inl ⟨hc.symm.trans h,(HM h).2 ⟨q1,q2,q3⟩,rfl⟩)
 have H4:Hid (c=0→¬ (x.k ≠ 6∧b1=true∧b2=true)→MadeZ x 4):=fun h q=>.inr (.inr ⟨hc.symm.trans h,fun e=>q ((HM h).1 e),rfl⟩)
 clear hX hok hsm hB hn hs hc hb1 hb2 HM
 by_cases h0:c=0
 · have t0:(c != 0)=false:=by simp [h0]
   have Z0:=H0.out h0
   have Z4:=H4.out h0
   have HZ0:Hid _:=Z0
   have HZ4:Hid _:=Z4
   clear H0 H4 HZ Z0 Z4 h0
   by_cases h6:x.k=6
   · have t6:(x.k == 6)=true:=by simpa using h6
     have F:Hid (MadeZ x 4):=HZ4.out fun q=>q.1 h6
     clear h6 HZ0 HZ4
     go_enter Tryz.func26,Tryz.ntmps26
     go_wp2_with (first | (go_at_call 76;refine C1.out.mono ?_;rintro e w1 ⟨rfl,hB1⟩;obtain ⟨e0,e1,e2,e3,e4,e5⟩:=(HN.out.later hB1).at0))
     go_ret
     exact ⟨_,rfl,F.out,HB.out.trans (hB1.mono HB.out.size)⟩
   · have t6:(x.k == 6)=false:=by simpa using h6
     have H6:=hid h6
     clear h6
     cases b1
     · have F:Hid (MadeZ x 4):=HZ4.out fun q=>by cases q.2.1
       clear HZ0 HZ4
       go_enter Tryz.func26,Tryz.ntmps26
       go_wp2_with (first
        | (go_at_call 76;refine C1.out.mono ?_;rintro e w1 ⟨rfl,hB1⟩;obtain ⟨e0,e1,e2,e3,e4,e5⟩:=(HN.out.later hB1).at0)
        | (go_at_call 80;refine (C2.out _ hB1).mono ?_;rintro e w2 ⟨rfl,hB2⟩))
       go_ret
       exact ⟨_,rfl,F.out,HB.out.trans ((hB1.trans (hB2.mono hB1.size)).mono HB.out.size)⟩
     · cases b2
       · have F:Hid (MadeZ x 4):=HZ4.out fun q=>by cases q.2.2
         clear HZ0 HZ4
         go_enter Tryz.func26,Tryz.ntmps26
         go_wp2_with (first
          | (go_at_call 76;refine C1.out.mono ?_;rintro e w1 ⟨rfl,hB1⟩;obtain ⟨e0,e1,e2,e3,e4,e5⟩:=(HN.out.later hB1).at0)
          | (go_at_call 80;refine (C2.out _ hB1).mono ?_;rintro e w2 ⟨rfl,hB2⟩;have hB12:=hB1.trans (hB2.mono hB1.size);obtain ⟨g0,g1,g2,g3,g4,g5⟩:=(HN.out.later hB12).at0)
          | (go_at_call 81;refine (C3.out _ hB12).mono ?_;rintro e w3 ⟨rfl,hB3⟩))
         go_ret
         exact ⟨_,rfl,F.out,HB.out.trans ((hB12.trans (hB3.mono hB12.size)).mono HB.out.size)⟩
       · have F:Hid (MadeZ x 0):=HZ0.out H6.out rfl rfl
         clear HZ0 HZ4
         go_enter Tryz.func26,Tryz.ntmps26
         go_wp2_with (first
          | (go_at_call 76;refine C1.out.mono ?_;rintro e w1 ⟨rfl,hB1⟩;obtain ⟨e0,e1,e2,e3,e4,e5⟩:=(HN.out.later hB1).at0)
          | (go_at_call 80;refine (C2.out _ hB1).mono ?_;rintro e w2 ⟨rfl,hB2⟩;have hB12:=hB1.trans (hB2.mono hB1.size);obtain ⟨g0,g1,g2,g3,g4,g5⟩:=(HN.out.later hB12).at0)
          | (go_at_call 81;refine (C3.out _ hB12).mono ?_;rintro e w3 ⟨rfl,hB3⟩))
         go_ret
         exact ⟨_,rfl,F.out,HB.out.trans ((hB12.trans (hB3.mono hB12.size)).mono HB.out.size)⟩
 · have t0:(c != 0)=true:=by simp [h0]
   have F:Hid (MadeZ x c):=HZ.out h0
   clear H0 H4 HZ h0
   go_enter Tryz.func26,Tryz.ntmps26
   go_wp2_with (first | (go_at_call 76;refine C1.out.mono ?_;rintro e w1 ⟨rfl,hB1⟩;obtain ⟨e0,e1,e2,e3,e4,e5⟩:=(HN.out.later hB1).at0))
   go_ret
   exact ⟨_,rfl,F.out,HB.out.trans (hB1.mono HB.out.size)⟩
def f1 (l:List Pt):List Value:=l.map fun y=>.string y.s
def f2 (l:List Pt):List Value:=l.map fun y=>.string y.t
def f3 (l:List Pt):List Value:=l.map fun y=>.int .i64 y.k
section
variable {base:Nat} {W:World} {v1 v2 v3:Value} {x1 x2 x3:List Value}
theorem R3.later {W':World} (h:R3 base W v1 v2 v3 x1 x2 x3) (hB:Below W.heap.size W W'):R3 base W' v1 v2 v3 x1 x2 x3:=⟨own_laterS h.o1 hB,own_laterS h.o2 hB,own_laterS h.o3 hB,h.a12,h.a13,h.a23⟩
theorem R3.box (h:R3 base W v1 v2 v3 x1 x2 x3) (t:TypeId) (u:Value):Bx (W.alloc (.cells #[u] t)) v1 v2 v3 W.heap.size t u :=
 ⟨Boxed.new W t u,fun e=>by have:=(h.o1.lt _ e).2;omega,fun e=>by have:=(h.o2.lt _ e).2;omega,fun e=>by have:=(h.o3.lt _ e).2;omega⟩
theorem own_f1 {l:List Pt} (h:W.ownsRow base 9 1 v1 (f1 l).length (f1 l)):∃ a cap,v1=.slice a l.length cap∧l.length≤cap∧∀ (j:Nat) (y:Pt),l[j]? = some y→∃ g,a=some ⟨g,0,none⟩∧W.cell? ⟨g,j,none⟩=some (.string y.s):=by
 have e0:(f1 l).length=l.length:=by simp [f1]
 rw [e0] at h
 rcases h.2 with ⟨rfl,e⟩ | ⟨g,cap,cur,rfl,hg,hc,hnc,hcm,hs,ht⟩
 · exact ⟨none,0,by rw [e],by omega,fun j y hy=>by have:=(List.getElem?_eq_some_iff.1 hy).1;omega⟩
 · refine ⟨_,cap,rfl,hnc,fun j y hy=>⟨g,rfl,?_⟩⟩
   have hj:=(List.getElem?_eq_some_iff.1 hy).1
   simp only [World.cell?,hc]
   have h1:(f1 l)[j]? = some (.string y.s):=by simp [f1,hy]
   rw [← ht,List.getElem?_take_of_lt (by omega),Array.getElem?_toList] at h1
   exact h1
end
def hadB (l:List Pt) (s:ByteArray) (m:Nat):Bool:=(l.take m).any fun z=>decide (z.s=s)
theorem hadB_next {l:List Pt} {s:ByteArray} {m:Nat} {y:Pt} (h:l[m]? = some y):hadB l s (m+1)=(hadB l s m || decide (y.s=s)):=by
 unfold hadB
 rw [List.take_add_one,h]
 simp [List.any_append]
theorem hadB_all (l:List Pt) (s:ByteArray):hadB l s l.length=l.any fun z=>decide (z.s=s):=by unfold hadB;rw [List.take_length]
theorem refVars12_any (x:Pt) (w:World) (hX:IsP w x) (hsm:x.size≤1048576) :
 Calls Tryz.prog 28 #[x.val] w fun e w'=>∃ v1 v2 v3,e=.returned (.tuple #[v1,v2,v3])∧R3 w.heap.size w' v1 v2 v3 (f1 (firstL (usesP x))) (f2 (firstL (usesP x))) (f3 (firstL (usesP x)))∧Below w.heap.size w w':=by
 obtain ⟨A,hA,hB,hs,hn⟩:=boxP_one x w
 obtain ⟨a0,a1,a2,a3,a4,a5⟩:=hn.at0
 have HBA:=hid hB
 have C1:Hid (Calls Tryz.prog 82 #[x.val] A (UsesAns x A)):=refUses_any x A (hX.later hB) hsm
 have hul:(usesP x).length≤1048576:=by have:=length_uses x;omega
 have HFL:Hid (∀ i,(firstL ((usesP x).take i)).length≤1048576):=fun i=>by
  have h1:=length_firstL ((usesP x).take i)
  rw [List.length_take] at h1
  omega
 clear hB hn hX hsm hs
 unfold UsesAns at C1
 generalize usesP x=U at C1 hul HFL ⊢
 go_enter Tryz.func28,Tryz.ntmps28
 go_wp2_with (first | (go_at_call 82;refine C1.out.mono ?_;rintro e w1 ⟨u,rfl,hu,hB1⟩;obtain ⟨au,capu,rfl,-,hcu,hcm,hus⟩:=own_uses hu;have HUS:=hid hus;clear hus hu))
 clear a0 a1 a2 a3 a4 a5 hA C1
 have HB1:=hid hB1
 clear hB1
 go_loopw [5,6,7,9] (fun u5 u6 u7 u9 wr=>∃ k:Nat,k≤U.length∧u9=.int .i64 k∧Hid (R3 w1.heap.size wr u5 u6 u7 (f1 (firstL (U.take k))) (f2 (firstL (U.take k))) (f3 (firstL (U.take k))))∧Below w1.heap.size w1 wr) (fun _ _ _ u9 _=>U.length - (intOf u9).toNat)
 case atStart=>exact ⟨0,Nat.zero_le _,rfl,R3.nil _ _,Below.refl _ _⟩
 case round =>
  obtain ⟨k,hk,rfl,HR,hB⟩:=hrel
  by_cases hkn:k < U.length
  · obtain ⟨y,hy⟩:∃ y,U[k]? = some y:=⟨U[k]'hkn,List.getElem?_eq_getElem _⟩
    obtain ⟨g,rfl,hg1,hg2,us0,us1,us2⟩:=HUS.out k y hy
    have HKN:=hid hkn
    have HSN:Hid (firstL (U.take (k+1))=addU (firstL (U.take k)) y):=by show _=_;rw [List.take_add_one,hy];exact firstL_snoc _ _
    have hFl:=HFL.out k
    obtain ⟨F,hF⟩:∃ F,F=firstL (U.take k):=⟨_,rfl⟩
    rw [← hF] at HR HSN hFl
    obtain ⟨a5,cap5,rfl,hc5,hrow5⟩:=own_f1 HR.out.o1
    have HRW:=hid hrow5
    have HUC:Hid (w1.cell? ⟨g,k * 3,none⟩=some (.string y.s)∧w1.cell? ⟨g,k * 3+1,none⟩=some (.string y.t)∧w1.cell? ⟨g,k * 3+2,none⟩=some (.int .i64 y.k)):=⟨us0,us1,us2⟩
    clear hy us0 us1 us2 hF hrow5 hg1 hg2
    go_wp2_with fail
    have hBr:=hB
    clear hB
    obtain ⟨w2,hw2⟩:∃ w2,w2=wr:=⟨_,rfl⟩
    rw [← hw2] at hBr HR HRW ⊢
    clear hw2
    go_loopw [10,11] (fun h m ws=>∃ j:Nat,j≤F.length∧h=.bool (hadB F y.s j)∧m=.int .i64 j∧Below w2.heap.size w2 ws) (fun _ m _=>F.length - (intOf m).toNat)
    case atStart=>exact ⟨0,Nat.zero_le _,rfl,rfl,Below.refl _ _⟩
    case round =>
     obtain ⟨j,hj,rfl,rfl,hBs⟩:=hrel
     by_cases hjn:j < F.length
     · obtain ⟨z,hz⟩:∃ z,F[j]? = some z:=⟨F[j]'hjn,List.getElem?_eq_getElem _⟩
       obtain ⟨g5,rfl,c5⟩:=HRW.out j z hz
       have c5':=cell_later c5 hBs
       have hb1s:=hBr.trans (hBs.mono hBr.size)
       have c6':=cell_later HUC.out.1 hb1s
       have HNX:Hid (hadB F y.s (j+1)=(hadB F y.s j || decide (z.s=y.s))):=hadB_next hz
       have HJN:=hid hjn
       clear c5 hz hb1s
       cases hh:hadB F y.s j with
       | true =>
         rw [hh] at HNX
         clear hh c5' c6'
         go_wp2_with fail
         go_quiet (fail)
         go_wp2
         go_roundw
         case rel=>exact ⟨j+1,HJN.out,by rw [HNX.out];rfl,by go_num,bd hBs _⟩
         case measure=>have:=HJN.out;simp [intOf];omega
       | false =>
         rw [hh] at HNX
         clear hh
         by_cases e:z.s=y.s
         · have t:=str_yes e
           rw [decide_eq_true e] at HNX
           clear e
           go_wp2_with fail
           go_quiet (fail)
           go_wp2
           go_roundw
           case rel=>exact ⟨j+1,HJN.out,by rw [HNX.out];rfl,by go_num,bd hBs _⟩
           case measure=>have:=HJN.out;simp [intOf];omega
         · have t:=str_not e
           rw [decide_eq_false e] at HNX
           clear e
           go_wp2_with fail
           go_quiet (fail)
           go_wp2
           go_roundw
           case rel=>exact ⟨j+1,HJN.out,by rw [HNX.out];rfl,by go_num,bd hBs _⟩
           case measure=>have:=HJN.out;simp [intOf];omega
     · obtain rfl:j=F.length:=by omega
       rw [hadB_all]
       have HRs:Hid (R3 w1.heap.size wr (.slice a5 F.length cap5) u6 u7 (f1 F) (f2 F) (f3 F)):=HR.out.later hBs
       have hb1s:=hBr.trans (hBs.mono hBr.size)
       cases hh:F.any fun z=>decide (z.s=y.s) with
       | true =>
         have HAD:Hid (firstL (U.take (k+1))=F):=by show _=_;rw [HSN.out];unfold addU;rw [if_pos hh]
         clear hh
         go_wp2
         go_roundw
         case rel=>exact ⟨k+1,HKN.out,by go_num,by show R3 _ _ _ _ _ _ _ _;rw [HAD.out];exact HRs.out,hb1s⟩
         case measure=>have:=HKN.out;simp [intOf];omega
       | false =>
         have HAD:Hid (firstL (U.take (k+1))=F ++ [y]):=by show _=_;rw [HSN.out];unfold addU;rw [if_neg (by rw [hh];simp)]
         have hsz:w1.heap.size≤wr.heap.size:=hb1s.size
         obtain ⟨z1,W1,r1,q1,b1,e1⟩:=(HRs.out.alloc (.cells #[.string y.s] 9)).app1 (by simp;omega) (by simp [f1];omega) (HRs.out.box 9 (.string y.s))
         have hbW1:Below w1.heap.size wr W1:=((Below.refl _ wr).alloc hsz _).trans e1
         obtain ⟨z2,W2,r2,q2,b2,e2⟩:=(q1.alloc (.cells #[.string y.t] 9)).app2 (by simp;have:=hbW1.size;omega) (by simp [f2];omega) (q1.box 9 (.string y.t))
         have hbW2:Below w1.heap.size wr W2:=hbW1.trans (((Below.refl _ W1).alloc (Nat.le_trans hsz hbW1.size) _).trans e2)
         obtain ⟨z3,W3,r3,q3,b3,e3⟩:=(q2.alloc (.cells #[.int .i64 y.k] 3)).app3 (by simp;have:=hbW2.size;omega) (by simp [f3];omega) (q2.box 3 (.int .i64 y.k))
         have hbW3:Below w1.heap.size wr W3:=hbW2.trans (((Below.refl _ W2).alloc (Nat.le_trans hsz hbW2.size) _).trans e3)
         have HR1:=hid r1
         have HR2:=hid r2
         have HR3:=hid r3
         have cc0:=cell_later HUC.out.1 hb1s
         have cc1:=(hb1s.trans hbW1).cell (p:=⟨g,k * 3+1,none⟩) (World.block_lt_of_cell? w1 _ HUC.out.2.1) |>.trans HUC.out.2.1
         have cc2:=(hb1s.trans hbW2).cell (p:=⟨g,k * 3+2,none⟩) (World.block_lt_of_cell? w1 _ HUC.out.2.2) |>.trans HUC.out.2.2
         have HQ:Hid (R3 w1.heap.size W3 z1 z2 z3 (f1 (firstL (U.take (k+1)))) (f2 (firstL (U.take (k+1)))) (f3 (firstL (U.take (k+1))))):=by
          show R3 _ _ _ _ _ _ _ _
          rw [HAD.out]
          unfold f1 f2 f3 at q3 ⊢
          simp only [List.map_append,List.map_cons,List.map_nil]
          exact q3
         have HBW:Hid (Below w1.heap.size w1 W3):=hb1s.trans hbW3
         clear hh r1 r2 r3 q1 q2 q3 b1 b2 b3 e1 e2 e3 hbW1 hbW2 hbW3 hsz
         go_wp2_with (first
          | (at_builtin;refine wpList_append_run rfl (.tmp 41) (.tmp 47) 37 rfl _ _ _ rfl rfl HR1.out ?_;clear HR1)
          | (at_builtin;refine wpList_append_run rfl (.tmp 49) (.tmp 55) 37 rfl _ _ _ rfl rfl HR2.out ?_;clear HR2)
          | (at_builtin;refine wpList_append_run rfl (.tmp 57) (.tmp 63) 39 rfl _ _ _ rfl rfl HR3.out ?_;clear HR3))
         go_roundw
         case rel=>exact ⟨k+1,HKN.out,by go_num,HQ.out,HBW.out⟩
         case measure=>have:=HKN.out;simp [intOf];omega
  · obtain rfl:k=U.length:=by omega
    go_wp2
    refine bodyPost_ret (results_tmp3 rfl _ _ _) rfl ?_
    have hR:=HR.out
    rw [List.take_length] at hR
    exact ⟨_,_,_,rfl,⟨own_low3 hR.o1 (Nat.le_trans HBA.out.size HB1.out.size),own_low3 hR.o2 (Nat.le_trans HBA.out.size HB1.out.size),own_low3 hR.o3 (Nat.le_trans HBA.out.size HB1.out.size),hR.a12,hR.a13,hR.a23⟩,HBA.out.trans ((HB1.out.trans (hB.mono HB1.out.size)).mono HBA.out.size)⟩
end Go.Proofs.YtkfpgkohkhhlhaaGreatDoor
