/- Texts that the last one stands on. -/
import Derived.Test.YtkfpgkohkhhlhaaGreatDoorHPatMath
namespace Go.Proofs.YtkfpgkohkhhlhaaGreatDoor
open Go.RowKit
theorem ne_yes {a b:Int} (h:a=b):(a != b)=false:=by simp [h]
theorem ne_no {a b:Int} (h:¬ a=b):(a != b)=true:=by simp [h]
end Go.Proofs.YtkfpgkohkhhlhaaGreatDoor
