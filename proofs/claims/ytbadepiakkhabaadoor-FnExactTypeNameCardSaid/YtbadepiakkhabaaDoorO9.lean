/- What the row's list gives a walk: the table holds the types' names. No conditions. -/
import Derived.Test.YtbadepiakkhabaaDoorO8
import Derived.Test.YtbadepiakkhabaaDoorTC
namespace Go.Proofs.YtbadepiakkhabaaDoor
open Go.RowKit
set_option linter.unusedVariables false

theorem gTyps : Tryd.prog.globalNamed "loop.example/g03106/impl.typeNames" = some 0 := by kernel_rfl
theorem gTypsType : (Tryd.prog.globals[0]?).map (·.type) = some 60 := by kernel_rfl
theorem cellsTyps : Tryd.prog.cellsOf 60 = 21 := by kernel_rfl
theorem typs_laid {H : Type} : (Rows.laid_loop_example_g03106_impl_typeNames : DataW H) = .agg (typL.map fun x => .lit (.string x.data.toList)) := rfl
theorem typs_of {W : World} (hL : laidMetH Tryd.prog [("loop.example/g03106/impl.typeNames", Rows.laid_loop_example_g03106_impl_typeNames)] W) : TypsAt W := by
  rw [MakeChecks.laidMetH_plain _ _ _ (by kernel_rfl)] at hL
  obtain ⟨ps, h, _⟩ := hL
  exact (tab_of gTyps gTypsType Tryd.underlying60 cellsTyps typL_len typs_laid h).1
end Go.Proofs.YtbadepiakkhabaaDoor
