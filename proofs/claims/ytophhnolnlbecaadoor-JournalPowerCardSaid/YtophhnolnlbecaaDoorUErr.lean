/- The cell of errors.errorType, and a world in which all that is listed lies. No statement is proved here. -/
import Derived.Test.YtophhnolnlbecaaDoorQ20
import Derived.Test.YtophhnolnlbecaaDoorNum
import Derived.LaidHandle
import Derived.LaidLaws
import Derived.Stop.Joined
import Derived.LaidMore
namespace Go.Proofs.YtophhnolnlbecaaDoor
open Go.RowKit Go.ChangeShapes Go.WideShapes
set_option maxRecDepth 100000

def laidE : List (String × DataW Unit) := [("errors.errorType", Rows.laid_errors_errorType), ("coffret/sum.turnedFour", Rows.laid_coffret_sum_turnedFour)]
theorem errT_named : Tryd.prog.globalNamed "errors.errorType" = some 0 := by kernel_rfl
theorem rtype_cut : (Tryd.prog.cutTypes.find? (·.1 == "internal/reflectlite.rtype")).map (·.2) = some 122 := by kernel_rfl
theorem error_row : ((List.range Tryd.prog.types.size).filter fun t => Tryd.prog.rowNamed t [101, 114, 114, 111, 114]) = [46] := by kernel_rfl
theorem parts_of {W : World} (h : laidMetH Tryd.prog laidE W) : laidMet Tryd.prog laidAll W ∧ handlesMet Tryd.prog [("errors.errorType", (Rows.laid_errors_errorType : DataW Unit))] W := h
theorem errT_of {W : World} (h : laidMetH Tryd.prog laidE W) : ErrT W := by
  obtain ⟨name, u, ty, e1, e2, e3, e4, e5⟩ := (parts_of h).2 _ (List.mem_singleton.2 rfl)
  have en : name = [101, 114, 114, 111, 114] := (Option.some.inj e1).symm
  subst en
  obtain rfl := Option.some.inj (rtype_cut.symm.trans e2)
  have hm : ty ∈ (List.range Tryd.prog.types.size).filter fun t => Tryd.prog.rowNamed t [101, 114, 114, 111, 114] := List.mem_filter.2 ⟨List.mem_range.2 e3, e4⟩
  rw [error_row] at hm
  obtain rfl := List.mem_singleton.1 hm
  have hh : typeHandle Tryd.prog 46 = .pointer (some ⟨2, 46, none⟩) := by kernel_rfl
  rw [hh] at e5
  unfold ErrT
  simpa using World.var?_cell errT_named e5 0
theorem door_met (os : Os) (args : Array Value) : laidMetH Tryd.prog laidE ((World.doorLaid Tryd.prog 400 os).forCall (fun _ _ => 0) ⟨#[], args, []⟩).memory :=
  laidMetH_of_parts (laidMet_of_run' 8 (by kernel_rfl) (by kernel_rfl)) (by kernel_rfl)
end Go.Proofs.YtophhnolnlbecaaDoor
