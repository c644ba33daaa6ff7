/- Texts that the last one stands on. -/
import Derived.Test.YtkfpgkohkhhlhaaGreatDoorGWlIn
set_option maxRecDepth 100000
set_option maxHeartbeats 1000000
namespace Go.Proofs.YtkfpgkohkhhlhaaGreatDoor
open Go.RowKit
theorem refIn_any (a:Option Addr) (n cap:Nat) (l:List ByteArray) (s:ByteArray) (w:World) (h:Txs w a n (atS l)) (hl:l.length = n) (hn:n ≤ 9223372036854775807) :
 Calls Tryz.prog 41 #[.slice a n cap,.string s] w fun e w'=>e = .returned (.bool (memB l s))∧w' = w:=by
 have HT:=hid h
 have HL:=hid hl
 clear h hl
 go_enter Tryz.func41,Tryz.ntmps41
 go_wp2
 go_loopw [5] (fun u wr=>∃ k:Nat,k ≤ n∧u = .int .i64 k∧Hid (∀ j,j < k→atS l j ≠ s)∧wr = w) (fun u _=>n - (intOf u).toNat)
 case atStart=>exact ⟨0,Nat.zero_le _,rfl,fun j hj=>absurd hj (Nat.not_lt_zero _),rfl⟩
 case round =>
  obtain ⟨k,hk,rfl,Hne,rfl⟩:=hrel
  by_cases hkn:k < n
  · obtain ⟨b,o,rfl,hc⟩:=HT.out (by omega)
    have hck:=hc k hkn
    have HK:=hid hkn
    clear hc
    by_cases e:atS l k = s
    · have es:=str_yes e
      have es':=str_yes e.symm
      have HE:=hid e
      clear e
      go_wp2
      go_ret
      exact ⟨by rw [memB_iff.2 (mem_atS.2 ⟨k,by rw [HL.out];exact HK.out,HE.out⟩)];rfl,by first | rfl | trivial⟩
    · have es:=str_not e
      have es':=str_not (fun h=>e (Eq.symm h))
      have HE:=hid e
      clear e
      go_wp2
      go_roundw
      case rel =>
       refine ⟨k + 1,HK.out,by simp,fun j hj=>?_,by first | rfl | trivial⟩
       by_cases ej:j = k
       · rw [ej];exact HE.out
       · exact Hne.out j (by omega)
      case measure=>have:=HK.out;simp [intOf];omega
  · have hkn':k = n:=by omega
    subst hkn'
    go_wp2
    go_ret
    have hf:memB l s = false:=Bool.eq_false_iff.2 fun h=>by
     obtain ⟨j,hj,e⟩:=mem_atS.1 (memB_iff.1 h)
     exact Hne.out j (by rw [← HL.out];exact hj) e
    exact ⟨by rw [hf];rfl,by first | rfl | trivial⟩
end Go.Proofs.YtkfpgkohkhhlhaaGreatDoor
