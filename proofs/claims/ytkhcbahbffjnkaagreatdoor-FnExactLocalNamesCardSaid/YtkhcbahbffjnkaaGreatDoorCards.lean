/-
  DERIVED. GIVEN WITH THE SEED: THE CARDS: each row of YtkhcbahbffjnkaaGreatDoorRows.lean that lists a variable, with what it lists TIED to the program's text (the seventh form; the later family's looks); each row that meets fmt, with fmt's text TOLD by the authors' own Lean function (tested against real Go, not proved from fmt's source: count such statements apart). THE CARD IS WHAT COUNTS. Prove the row's statement (the work); the ties are given (YtkhcbahbffjnkaaGreatDoorTie.lean); close each card by the builder's one call (the guide's Derived/Test/ToyasCard.lean, 'card_holds'). Laid BY PROGRAM, IN A SANDBOX (cutbox-door.mjs). By AI agents, Wed Nov 11 2026. No macro, syntax, notation, axiom, sorry.
-/
import Derived.Test.YtkhcbahbffjnkaaGreatDoorRows
import GoSem.ClaimSeven
namespace Go.Proofs.YtkhcbahbffjnkaaGreatDoor
namespace Rows

/-- THE TIED CARD OF 'laws.FnPrintedExpr'. -/
def fnPrintedExprCard : Claim7 := { stood := { row := fnPrintedExprRow, standIns := [], harness := (true, "6f0e258e69f63749a38e5251d6128f5e3f183c5dc700bed7d3a9d672aa2cff26"), looks := true }, kinds := [], alts := [], laidByText := true, laidKinds := [.sentinel], laidTests := true, laidLooks := .later }
def FnPrintedExprCardSaid : Prop := Claim7.holds Tryz.pinned (.plain (OpenSpec.ofChange fnPrintedExprSpec)) fnPrintedExprCard

/-- THE TIED CARD OF 'laws.FnPrintedUnit'. -/
def fnPrintedUnitCard : Claim7 := { stood := { row := fnPrintedUnitRow, standIns := [], harness := (true, "6f0e258e69f63749a38e5251d6128f5e3f183c5dc700bed7d3a9d672aa2cff26"), looks := true }, kinds := [], alts := [], laidByText := true, laidKinds := [.sentinel], laidTests := true, laidLooks := .later }
def FnPrintedUnitCardSaid : Prop := Claim7.holds Tryz.pinned (.plain (OpenSpec.ofChange fnPrintedUnitSpec)) fnPrintedUnitCard

/-- THE TIED CARD OF 'laws.FnParsedValid'. -/
def fnParsedValidCard : Claim7 := { stood := { row := fnParsedValidRow, standIns := [], harness := (true, "6f0e258e69f63749a38e5251d6128f5e3f183c5dc700bed7d3a9d672aa2cff26"), looks := true }, kinds := [], alts := [], laidByText := true, laidKinds := [.sentinel], laidTests := true, laidLooks := .later }
def FnParsedValidCardSaid : Prop := Claim7.holds Tryz.pinned (.plain (OpenSpec.ofChange fnParsedValidSpec)) fnParsedValidCard

/-- THE TIED CARD OF 'laws.FnExactParseExpression'. -/
def fnExactParseExpressionCard : Claim7 := { stood := { row := fnExactParseExpressionRow, standIns := [], harness := (true, "6f0e258e69f63749a38e5251d6128f5e3f183c5dc700bed7d3a9d672aa2cff26"), looks := true }, kinds := [], alts := [], laidByText := true, laidKinds := [.sentinel], laidTests := true, laidLooks := .later }
def FnExactParseExpressionCardSaid : Prop := Claim7.holds Tryz.pinned (.plain (OpenSpec.ofChange fnExactParseExpressionSpec)) fnExactParseExpressionCard

/-- THE TIED CARD OF 'laws.FnExactParseUnit'. -/
def fnExactParseUnitCard : Claim7 := { stood := { row := fnExactParseUnitRow, standIns := [], harness := (true, "6f0e258e69f63749a38e5251d6128f5e3f183c5dc700bed7d3a9d672aa2cff26"), looks := true }, kinds := [], alts := [], laidByText := true, laidKinds := [.sentinel], laidTests := true, laidLooks := .later }
def FnExactParseUnitCardSaid : Prop := Claim7.holds Tryz.pinned (.plain (OpenSpec.ofChange fnExactParseUnitSpec)) fnExactParseUnitCard

/-- THE TIED CARD OF 'laws.FnExactLocalNames'. -/
def fnExactLocalNamesCard : Claim7 := { stood := { row := fnExactLocalNamesRow, standIns := [], harness := (true, "6f0e258e69f63749a38e5251d6128f5e3f183c5dc700bed7d3a9d672aa2cff26"), looks := true }, kinds := [], alts := [], laidByText := true, laidKinds := [.data], laidTests := true, laidLooks := .later }
def FnExactLocalNamesCardSaid : Prop := Claim7.holds Tryz.pinned (.plain (OpenSpec.ofChange fnExactLocalNamesSpec)) fnExactLocalNamesCard

/-- THE TIED CARD OF 'laws.FnExactCheckUnit'. -/
def fnExactCheckUnitCard : Claim7 := { stood := { row := fnExactCheckUnitRow, standIns := [], harness := (true, "6f0e258e69f63749a38e5251d6128f5e3f183c5dc700bed7d3a9d672aa2cff26"), looks := true }, kinds := [], alts := [], laidByText := true, laidKinds := [.data], laidTests := true, laidLooks := .later }
def FnExactCheckUnitCardSaid : Prop := Claim7.holds Tryz.pinned (.plain (OpenSpec.ofChange fnExactCheckUnitSpec)) fnExactCheckUnitCard

/-- THE SECOND FORM's CARD OF 'laws.FnPrintedExpr'. -/
def fnPrintedExprUptoCard : Claim7 := { stood := { row := fnPrintedExprUptoRow, standIns := [], harness := (true, "6f0e258e69f63749a38e5251d6128f5e3f183c5dc700bed7d3a9d672aa2cff26"), looks := true }, kinds := [], alts := [], laidByText := true, laidKinds := [.sentinel], laidTests := true, laidLooks := .later }
def FnPrintedExprUptoCardSaid : Prop := Claim7.holds Tryz.pinned (.plain (OpenSpec.upto fnPrintedExprSpec)) fnPrintedExprUptoCard

/-- THE SECOND FORM's CARD OF 'laws.FnPrintedUnit'. -/
def fnPrintedUnitUptoCard : Claim7 := { stood := { row := fnPrintedUnitUptoRow, standIns := [], harness := (true, "6f0e258e69f63749a38e5251d6128f5e3f183c5dc700bed7d3a9d672aa2cff26"), looks := true }, kinds := [], alts := [], laidByText := true, laidKinds := [.sentinel], laidTests := true, laidLooks := .later }
def FnPrintedUnitUptoCardSaid : Prop := Claim7.holds Tryz.pinned (.plain (OpenSpec.upto fnPrintedUnitSpec)) fnPrintedUnitUptoCard

/-- THE SECOND FORM's CARD OF 'laws.FnParsedValid'. -/
def fnParsedValidUptoCard : Claim7 := { stood := { row := fnParsedValidUptoRow, standIns := [], harness := (true, "6f0e258e69f63749a38e5251d6128f5e3f183c5dc700bed7d3a9d672aa2cff26"), looks := true }, kinds := [], alts := [], laidByText := true, laidKinds := [.sentinel], laidTests := true, laidLooks := .later }
def FnParsedValidUptoCardSaid : Prop := Claim7.holds Tryz.pinned (.plain (OpenSpec.upto fnParsedValidSpec)) fnParsedValidUptoCard

/-- THE SECOND FORM's CARD OF 'laws.FnExactParseExpression'. -/
def fnExactParseExpressionUptoCard : Claim7 := { stood := { row := fnExactParseExpressionUptoRow, standIns := [], harness := (true, "6f0e258e69f63749a38e5251d6128f5e3f183c5dc700bed7d3a9d672aa2cff26"), looks := true }, kinds := [], alts := [], laidByText := true, laidKinds := [.sentinel], laidTests := true, laidLooks := .later }
def FnExactParseExpressionUptoCardSaid : Prop := Claim7.holds Tryz.pinned (.plain (OpenSpec.upto fnExactParseExpressionSpec)) fnExactParseExpressionUptoCard

/-- THE SECOND FORM's CARD OF 'laws.FnExactParseUnit'. -/
def fnExactParseUnitUptoCard : Claim7 := { stood := { row := fnExactParseUnitUptoRow, standIns := [], harness := (true, "6f0e258e69f63749a38e5251d6128f5e3f183c5dc700bed7d3a9d672aa2cff26"), looks := true }, kinds := [], alts := [], laidByText := true, laidKinds := [.sentinel], laidTests := true, laidLooks := .later }
def FnExactParseUnitUptoCardSaid : Prop := Claim7.holds Tryz.pinned (.plain (OpenSpec.upto fnExactParseUnitSpec)) fnExactParseUnitUptoCard

/-- THE SECOND FORM's CARD OF 'laws.FnExactLocalNames'. -/
def fnExactLocalNamesUptoCard : Claim7 := { stood := { row := fnExactLocalNamesUptoRow, standIns := [], harness := (true, "6f0e258e69f63749a38e5251d6128f5e3f183c5dc700bed7d3a9d672aa2cff26"), looks := true }, kinds := [], alts := [], laidByText := true, laidKinds := [.data], laidTests := true, laidLooks := .later }
def FnExactLocalNamesUptoCardSaid : Prop := Claim7.holds Tryz.pinned (.plain (OpenSpec.upto fnExactLocalNamesSpec)) fnExactLocalNamesUptoCard

/-- THE SECOND FORM's CARD OF 'laws.FnExactCheckUnit'. -/
def fnExactCheckUnitUptoCard : Claim7 := { stood := { row := fnExactCheckUnitUptoRow, standIns := [], harness := (true, "6f0e258e69f63749a38e5251d6128f5e3f183c5dc700bed7d3a9d672aa2cff26"), looks := true }, kinds := [], alts := [], laidByText := true, laidKinds := [.data], laidTests := true, laidLooks := .later }
def FnExactCheckUnitUptoCardSaid : Prop := Claim7.holds Tryz.pinned (.plain (OpenSpec.upto fnExactCheckUnitSpec)) fnExactCheckUnitUptoCard
end Rows
end Go.Proofs.YtkhcbahbffjnkaaGreatDoor
