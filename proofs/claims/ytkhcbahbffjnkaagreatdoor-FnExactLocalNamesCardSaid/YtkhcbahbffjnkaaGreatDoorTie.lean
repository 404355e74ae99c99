/-
  DERIVED. GIVEN WITH THE SEED: THE PROGRAM's TIES (one call each: nine closed facts by the kernel) AND EACH ROW's TIE, after the 31st guide's Derived/Test/Toyas{Tie, Card}.lean. No idea stands in it: it is a product of the set-up. Laid BY PROGRAM, IN A SANDBOX (cutbox-door.mjs). By AI agents, Wed Nov 11 2026. No macro, syntax, notation, axiom, sorry.
-/
import Derived.Test.YtkhcbahbffjnkaaGreatDoorRows
import Derived.LaidByTextLater
import Derived.SevenTiedAt
import Derived.LaidSub
import Derived.LaidOnce
namespace Go.Proofs.YtkhcbahbffjnkaaGreatDoor
open Go
set_option maxRecDepth 100000
theorem seatTie1 : Tryz.prog.laidByTextLater [("loop.example/g03106/impl.errBadEscape", Rows.laid_loop_example_g03106_impl_errBadEscape), ("loop.example/g03106/impl.functionNames", Rows.laid_loop_example_g03106_impl_functionNames)] [.sentinel, .data] true :=
  Program.laidByTextLater_by_one 33 8 56 (by kernel_rfl) (by kernel_rfl) (by kernel_rfl) (by kernel_rfl) (by kernel_rfl) (by kernel_rfl) (fun _ _ => by kernel_rfl)
theorem noOwnUnsafe : Tryz.pinned.checked.prog.headLifts.contains "ownunsafe" = false := by kernel_rfl
theorem tie : Tryz.prog.laidByTextLater [("loop.example/g03106/impl.errBadEscape", Rows.laid_loop_example_g03106_impl_errBadEscape)] [.sentinel] true :=
  Program.laidByTextLater.sub seatTie1 ["loop.example/g03106/impl.errBadEscape"] (by kernel_rfl) (by kernel_rfl)
theorem fnPrintedExpr_row_tie : Rows.fnPrintedExprRow.laidByTextAt .later Tryz.pinned [.sentinel] true :=
  OpenClaim.laidByTextAt_later rfl rfl tie noOwnUnsafe
theorem fnPrintedUnit_row_tie : Rows.fnPrintedUnitRow.laidByTextAt .later Tryz.pinned [.sentinel] true :=
  OpenClaim.laidByTextAt_later rfl rfl tie noOwnUnsafe
theorem fnParsedValid_row_tie : Rows.fnParsedValidRow.laidByTextAt .later Tryz.pinned [.sentinel] true :=
  OpenClaim.laidByTextAt_later rfl rfl tie noOwnUnsafe
theorem fnExactParseExpression_row_tie : Rows.fnExactParseExpressionRow.laidByTextAt .later Tryz.pinned [.sentinel] true :=
  OpenClaim.laidByTextAt_later rfl rfl tie noOwnUnsafe
theorem fnExactParseUnit_row_tie : Rows.fnExactParseUnitRow.laidByTextAt .later Tryz.pinned [.sentinel] true :=
  OpenClaim.laidByTextAt_later rfl rfl tie noOwnUnsafe
theorem tie2 : Tryz.prog.laidByTextLater [("loop.example/g03106/impl.functionNames", Rows.laid_loop_example_g03106_impl_functionNames)] [.data] true :=
  Program.laidByTextLater.sub seatTie1 ["loop.example/g03106/impl.functionNames"] (by kernel_rfl) (by kernel_rfl)
theorem fnExactLocalNames_row_tie : Rows.fnExactLocalNamesRow.laidByTextAt .later Tryz.pinned [.data] true :=
  OpenClaim.laidByTextAt_later rfl rfl tie2 noOwnUnsafe
theorem fnExactCheckUnit_row_tie : Rows.fnExactCheckUnitRow.laidByTextAt .later Tryz.pinned [.data] true :=
  OpenClaim.laidByTextAt_later rfl rfl tie2 noOwnUnsafe
theorem fnPrintedExprUpto_row_tie : Rows.fnPrintedExprUptoRow.laidByTextAt .later Tryz.pinned [.sentinel] true :=
  OpenClaim.laidByTextAt_later rfl rfl tie noOwnUnsafe
theorem fnPrintedUnitUpto_row_tie : Rows.fnPrintedUnitUptoRow.laidByTextAt .later Tryz.pinned [.sentinel] true :=
  OpenClaim.laidByTextAt_later rfl rfl tie noOwnUnsafe
theorem fnParsedValidUpto_row_tie : Rows.fnParsedValidUptoRow.laidByTextAt .later Tryz.pinned [.sentinel] true :=
  OpenClaim.laidByTextAt_later rfl rfl tie noOwnUnsafe
theorem fnExactParseExpressionUpto_row_tie : Rows.fnExactParseExpressionUptoRow.laidByTextAt .later Tryz.pinned [.sentinel] true :=
  OpenClaim.laidByTextAt_later rfl rfl tie noOwnUnsafe
theorem fnExactParseUnitUpto_row_tie : Rows.fnExactParseUnitUptoRow.laidByTextAt .later Tryz.pinned [.sentinel] true :=
  OpenClaim.laidByTextAt_later rfl rfl tie noOwnUnsafe
theorem fnExactLocalNamesUpto_row_tie : Rows.fnExactLocalNamesUptoRow.laidByTextAt .later Tryz.pinned [.data] true :=
  OpenClaim.laidByTextAt_later rfl rfl tie2 noOwnUnsafe
theorem fnExactCheckUnitUpto_row_tie : Rows.fnExactCheckUnitUptoRow.laidByTextAt .later Tryz.pinned [.data] true :=
  OpenClaim.laidByTextAt_later rfl rfl tie2 noOwnUnsafe
end Go.Proofs.YtkhcbahbffjnkaaGreatDoor
