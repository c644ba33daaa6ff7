/-
  The document's Same of patterns.
-/
import Derived.Test.YtfnfegcjgnbgbaaDoorNPatMath
import Derived.Test.YtfnfegcjgnbgbaaDoorNTxt
import Derived.Deep.RegionWith
namespace Go.Proofs.YtfnfegcjgnbgbaaDoor
open Go.RowKit

theorem ne_yes {a b : Int} (h : a = b) : (a != b) = false := by simp [h]
theorem ne_no {a b : Int} (h : ¬ a = b) : (a != b) = true := by simp [h]
end Go.Proofs.YtfnfegcjgnbgbaaDoor
