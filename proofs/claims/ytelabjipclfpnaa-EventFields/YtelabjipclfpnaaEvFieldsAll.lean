/-
  EventFields' walk (P8.2), whole.
-/
import Derived.Test.YtelabjipclfpnaaEvFieldsSome
import Derived.Test.YtelabjipclfpnaaEvFieldsNone
namespace Go.Proofs.Ytelabjipclfpnaa
open Go.RowKit

theorem eventFields_walk (a : Option Addr) (n cap : Nat) (Q : Nat → Sch) (x : Evt) (f : ByteArray) (w : World) (H : Schs w a n Q) (hn : n ≤ 9223372036854775807) (HE : IsEvt w x) :
    Calls Try.prog 5 #[.slice a n cap, evtV x.ty x.t x.v, .string f] w fun e w' => e = .returned (.bool true) ∧ Below w.heap.size w w' := by
  have c1 := fun d hd => evGet_any a n cap Q x f d (H.later (w' := d) hd) hn (HE.later hd)
  have c2 := fun d hd => evCheck_any a n cap Q x d (H.later (w' := d) hd) hn (HE.later hd)
  have c4 := fun d hd => has_any a n cap Q x.ty f d (H.later (w' := d) hd) hn
  by_cases hz : evZ n Q x = 0
  · rw [hz] at c2
    have hm := fields_math n Q x hz
    rw [← fields_has n Q x f hz] at c4
    cases ho : getE n Q x f with
    | none =>
      rw [ho] at c1 c4
      exact fields_none a n cap Q x f w H hn HE hm c1 c2 c4
    | some v =>
      rw [ho] at c1 c4
      exact fields_some a n cap Q x f v w H hn HE hm c1 c2 c4
  · exact fields_bad a n cap x f (getE n Q x f) _ w hz c1 c2
end Go.Proofs.Ytelabjipclfpnaa
