/-
  What the rows' condition on typing's two variables gives the walks: two sentinels, one here, one there.
-/
import Derived.Test.YtahlmlbfgijcpaaDoorTypErrno
import Derived.ProofKit
import Derived.LaidMore
import Derived.OpenShut
import Derived.Stop.Joined
import Derived.Stop.LaidErr
import Derived.Stop.LaidTwo
namespace Go.Proofs.YtahlmlbfgijcpaaDoor
open Go.ChangeShapes Go.WideShapes Go.ChangeAt Go.RowKit

def laidL : List (String × DataW Unit) := [("haruspex/typing.errNone", Rows.laid_haruspex_typing_errNone), ("haruspex/typing.errType", Rows.laid_haruspex_typing_errType)]
theorem gNone : Tryd.prog.globalNamed "haruspex/typing.errNone" = some 1 := by kernel_rfl
theorem gType : Tryd.prog.globalNamed "haruspex/typing.errType" = some 0 := by kernel_rfl
theorem tNone : (Tryd.prog.globals[1]?).map (·.type) = some 40 := by kernel_rfl
theorem tType : (Tryd.prog.globals[0]?).map (·.type) = some 40 := by kernel_rfl
theorem cellsES : Tryd.prog.cellsOf 135 = 1 := by kernel_rfl
theorem cellsSt : Tryd.prog.cellsOf 9 = 1 := by kernel_rfl
theorem starES : "*" ++ "errors.errorString" = "*errors.errorString" := by decide
theorem rowES (u : TypeId) (h : Tryd.prog.typeName? 3 u = some "*errors.errorString") : u = 109 :=
  typeName_ptr_named (nm := "errors.errorString") (by rw [starES]; kernel_rfl) (by kernel_rfl) (by decide) u (by rw [starES]; exact h)
theorem cell_of_var {W : World} {name : String} {g : Nat} {v : Value} (hg : Tryd.prog.globalNamed name = some g) (hv : W.var? Tryd.prog name = some #[v]) : W.cell? ⟨g, 0, none⟩ = some v := by
  unfold World.var? at hv
  rw [hg] at hv
  simp only [Option.bind_some] at hv
  split at hv
  · rename_i c t f hh
    cases hv
    simp [World.cell?, hh]
  · cases hv
theorem sens_of_laid {W : World} (h : laidMetH Tryd.prog laidL W) : ∃ N T, Sens W N T := by
  have hL : laidMet Tryd.prog laidL W := h
  obtain ⟨a0, a1, s0, s1, c0, c1, t0, t1, hv0, hv1, _, _, _, _, _, _, hne, hb0, hb1⟩ := laid_sentinels2 hL gNone tNone gType tType Tryd.underlying40 rowES Tryd.underlying109 Tryd.underlying135 rfl rfl Tryd.underlying9 cellsES cellsSt
  exact ⟨a0, a1, cell_of_var gNone hv0, cell_of_var gType hv1, ⟨c0, t0, hb0⟩, ⟨c1, t1, hb1⟩, hne⟩
theorem door_met (os : Os) (args : Array Value) : laidMetH Tryd.prog laidL ((World.doorLaid Tryd.prog 400 os).forCall (fun _ _ => 0) ⟨#[], args, []⟩).memory :=
  laidMet_of_run' 8 (by kernel_rfl) (by kernel_rfl)
end Go.Proofs.YtahlmlbfgijcpaaDoor
