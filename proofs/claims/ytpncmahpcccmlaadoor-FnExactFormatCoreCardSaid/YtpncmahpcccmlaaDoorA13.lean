/- What the row's list gives a walk: the tables of the kinds' names and of the operators. No conditions. -/
import Derived.Test.YtpncmahpcccmlaaDoorA6
import Derived.Test.YtpncmahpcccmlaaDoorA10
namespace Go.Proofs.YtpncmahpcccmlaaDoor
open Go.RowKit
set_option linter.unusedVariables false

theorem gCores : Tryd.prog.globalNamed "loop.example/g03106/impl.coreNames" = some 2 := by kernel_rfl
theorem gCoresType : (Tryd.prog.globals[2]?).map (·.type) = some 210 := by kernel_rfl
theorem cellsCores : Tryd.prog.cellsOf 210 = 29 := by kernel_rfl
theorem cores_laid {H : Type} : (Rows.laid_loop_example_g03106_impl_coreNames : DataW H) = .agg (coL.map fun x => .lit (.string x.data.toList)) := rfl
theorem cores_of {W : World} (hL : laidMetH Tryd.prog [("loop.example/g03106/impl.coreNames", Rows.laid_loop_example_g03106_impl_coreNames), ("loop.example/g03106/impl.operatorTexts", Rows.laid_loop_example_g03106_impl_operatorTexts)] W) : Cr.CoreAt W ∧ OpsAt W := by
  rw [MakeChecks.laidMetH_plain _ _ _ (by kernel_rfl)] at hL
  obtain ⟨ps, h, _⟩ := hL
  obtain ⟨h1, qs, h2⟩ := tab_of gCores gCoresType Tryd.underlying210 cellsCores coL_len cores_laid h
  exact ⟨h1, (tab_of gOps gOpsType Tryd.underlying90 cellsOps opL_len ops_laid h2).1⟩
end Go.Proofs.YtpncmahpcccmlaaDoor
