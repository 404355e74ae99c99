/-
  DERIVED. GIVEN WITH THE SEED: THE PROGRAM's TIES (one call each: nine closed facts by the kernel) AND EACH ROW's TIE, after the 31st guide's Derived/Test/Toyas{Tie, Card}.lean. No idea stands in it: it is a product of the set-up. Laid BY PROGRAM, IN A SANDBOX (cutbox-door.mjs). By AI agents, Wed Nov 11 2026. No macro, syntax, notation, axiom, sorry.
-/
import Derived.Test.YtbadepiakkhabaaDoorRows
import Derived.LaidByTextLater
import Derived.SevenTiedAt
import Derived.LaidSub
import Derived.LaidOnce
namespace Go.Proofs.YtbadepiakkhabaaDoor
open Go
set_option maxRecDepth 100000
theorem seatTie1 : Tryd.prog.laidByTextLater [("loop.example/g03106/impl.functionNames", Rows.laid_loop_example_g03106_impl_functionNames), ("loop.example/g03106/impl.operatorTexts", Rows.laid_loop_example_g03106_impl_operatorTexts), ("loop.example/g03106/impl.typeNames", Rows.laid_loop_example_g03106_impl_typeNames)] [.data, .data, .data] true :=
  Program.laidByTextLater_by_one 24 8 83 (by kernel_rfl) (by kernel_rfl) (by kernel_rfl) (by kernel_rfl) (by kernel_rfl) (by kernel_rfl) (fun _ _ => by kernel_rfl)
theorem noOwnUnsafe : Tryd.pinned.checked.prog.headLifts.contains "ownunsafe" = false := by kernel_rfl
theorem tie : Tryd.prog.laidByTextLater [("loop.example/g03106/impl.typeNames", Rows.laid_loop_example_g03106_impl_typeNames)] [.data] true :=
  Program.laidByTextLater.sub seatTie1 ["loop.example/g03106/impl.typeNames"] (by kernel_rfl) (by kernel_rfl)
theorem fnExactTypeName_row_tie : Rows.fnExactTypeNameRow.laidByTextAt .later Tryd.pinned [.data] true :=
  OpenClaim.laidByTextAt_later rfl rfl tie noOwnUnsafe
theorem tie2 : Tryd.prog.laidByTextLater [("loop.example/g03106/impl.operatorTexts", Rows.laid_loop_example_g03106_impl_operatorTexts)] [.data] true :=
  Program.laidByTextLater.sub seatTie1 ["loop.example/g03106/impl.operatorTexts"] (by kernel_rfl) (by kernel_rfl)
theorem fnExactIsValidProgram_row_tie : Rows.fnExactIsValidProgramRow.laidByTextAt .later Tryd.pinned [.data] true :=
  OpenClaim.laidByTextAt_later rfl rfl tie2 noOwnUnsafe
theorem tie3 : Tryd.prog.laidByTextLater [("loop.example/g03106/impl.functionNames", Rows.laid_loop_example_g03106_impl_functionNames)] [.data] true :=
  Program.laidByTextLater.sub seatTie1 ["loop.example/g03106/impl.functionNames"] (by kernel_rfl) (by kernel_rfl)
theorem fnLocals_row_tie : Rows.fnLocalsRow.laidByTextAt .later Tryd.pinned [.data] true :=
  OpenClaim.laidByTextAt_later rfl rfl tie3 noOwnUnsafe
theorem fnExactTypeNameUpto_row_tie : Rows.fnExactTypeNameUptoRow.laidByTextAt .later Tryd.pinned [.data] true :=
  OpenClaim.laidByTextAt_later rfl rfl tie noOwnUnsafe
theorem fnExactIsValidProgramUpto_row_tie : Rows.fnExactIsValidProgramUptoRow.laidByTextAt .later Tryd.pinned [.data] true :=
  OpenClaim.laidByTextAt_later rfl rfl tie2 noOwnUnsafe
theorem fnLocalsUpto_row_tie : Rows.fnLocalsUptoRow.laidByTextAt .later Tryd.pinned [.data] true :=
  OpenClaim.laidByTextAt_later rfl rfl tie3 noOwnUnsafe
end Go.Proofs.YtbadepiakkhabaaDoor
