/-
  DERIVED. GIVEN WITH THE SEED: THE CARDS: each row of YtpncmahpcccmlaaDoorRows.lean that lists a variable, with what it lists TIED to the program's text (the seventh form; the later family's looks); each row that meets fmt, with fmt's text TOLD by the authors' own Lean function (tested against real Go, not proved from fmt's source: count such statements apart). THE CARD IS WHAT COUNTS. Prove the row's statement (the work); the ties are given (YtpncmahpcccmlaaDoorTie.lean); close each card by the builder's one call (the guide's Derived/Test/ToyasCard.lean, 'card_holds'). Laid BY PROGRAM, IN A SANDBOX (cutbox-door.mjs). By AI agents, Wed Nov 11 2026. No macro, syntax, notation, axiom, sorry.
-/
import Derived.Test.YtpncmahpcccmlaaDoorRows
import GoSem.ClaimSeven
namespace Go.Proofs.YtpncmahpcccmlaaDoor
namespace Rows

/-- THE TIED CARD OF 'laws.FnLocals'. -/
def fnLocalsCard : Claim7 := { stood := { row := fnLocalsRow, standIns := [], harness := (true, "84397265554fa549e73e99d4324fac3247a6af361dd0e337b77064f2addd6943"), looks := false }, kinds := [], alts := [], laidByText := true, laidKinds := [.data], laidTests := true, laidLooks := .later }
def FnLocalsCardSaid : Prop := Claim7.holds Tryd.pinned (.plain (OpenSpec.ofChange fnLocalsSpec)) fnLocalsCard

/-- THE TIED CARD OF 'laws.FnExactOperatorText'. -/
def fnExactOperatorTextCard : Claim7 := { stood := { row := fnExactOperatorTextRow, standIns := [], harness := (true, "84397265554fa549e73e99d4324fac3247a6af361dd0e337b77064f2addd6943"), looks := false }, kinds := [], alts := [], laidByText := true, laidKinds := [.data], laidTests := true, laidLooks := .later }
def FnExactOperatorTextCardSaid : Prop := Claim7.holds Tryd.pinned (.plain (OpenSpec.ofChange fnExactOperatorTextSpec)) fnExactOperatorTextCard

/-- THE TIED CARD OF 'laws.FnExactOperatorArity'. -/
def fnExactOperatorArityCard : Claim7 := { stood := { row := fnExactOperatorArityRow, standIns := [], harness := (true, "84397265554fa549e73e99d4324fac3247a6af361dd0e337b77064f2addd6943"), looks := false }, kinds := [], alts := [], laidByText := true, laidKinds := [.data], laidTests := true, laidLooks := .later }
def FnExactOperatorArityCardSaid : Prop := Claim7.holds Tryd.pinned (.plain (OpenSpec.ofChange fnExactOperatorAritySpec)) fnExactOperatorArityCard

/-- THE TIED CARD OF 'laws.FnExactIsValidProgram'. -/
def fnExactIsValidProgramCard : Claim7 := { stood := { row := fnExactIsValidProgramRow, standIns := [], harness := (true, "84397265554fa549e73e99d4324fac3247a6af361dd0e337b77064f2addd6943"), looks := false }, kinds := [], alts := [], laidByText := true, laidKinds := [.data], laidTests := true, laidLooks := .later }
def FnExactIsValidProgramCardSaid : Prop := Claim7.holds Tryd.pinned (.plain (OpenSpec.ofChange fnExactIsValidProgramSpec)) fnExactIsValidProgramCard

/-- THE TIED CARD OF 'laws.FnExactFormatCore'. -/
def fnExactFormatCoreCard : Claim7 := { stood := { row := fnExactFormatCoreRow, standIns := [], harness := (true, "84397265554fa549e73e99d4324fac3247a6af361dd0e337b77064f2addd6943"), looks := false }, kinds := [], alts := [], laidByText := true, laidKinds := [.data, .data], laidTests := true, laidLooks := .later }
def FnExactFormatCoreCardSaid : Prop := Claim7.holds Tryd.pinned (.plain (OpenSpec.ofChange fnExactFormatCoreSpec)) fnExactFormatCoreCard

/-- THE SECOND FORM's CARD OF 'laws.FnLocals'. -/
def fnLocalsUptoCard : Claim7 := { stood := { row := fnLocalsUptoRow, standIns := [], harness := (true, "84397265554fa549e73e99d4324fac3247a6af361dd0e337b77064f2addd6943"), looks := false }, kinds := [], alts := [], laidByText := true, laidKinds := [.data], laidTests := true, laidLooks := .later }
def FnLocalsUptoCardSaid : Prop := Claim7.holds Tryd.pinned (.plain (OpenSpec.upto fnLocalsSpec)) fnLocalsUptoCard

/-- THE SECOND FORM's CARD OF 'laws.FnExactOperatorText'. -/
def fnExactOperatorTextUptoCard : Claim7 := { stood := { row := fnExactOperatorTextUptoRow, standIns := [], harness := (true, "84397265554fa549e73e99d4324fac3247a6af361dd0e337b77064f2addd6943"), looks := false }, kinds := [], alts := [], laidByText := true, laidKinds := [.data], laidTests := true, laidLooks := .later }
def FnExactOperatorTextUptoCardSaid : Prop := Claim7.holds Tryd.pinned (.plain (OpenSpec.upto fnExactOperatorTextSpec)) fnExactOperatorTextUptoCard

/-- THE SECOND FORM's CARD OF 'laws.FnExactOperatorArity'. -/
def fnExactOperatorArityUptoCard : Claim7 := { stood := { row := fnExactOperatorArityUptoRow, standIns := [], harness := (true, "84397265554fa549e73e99d4324fac3247a6af361dd0e337b77064f2addd6943"), looks := false }, kinds := [], alts := [], laidByText := true, laidKinds := [.data], laidTests := true, laidLooks := .later }
def FnExactOperatorArityUptoCardSaid : Prop := Claim7.holds Tryd.pinned (.plain (OpenSpec.upto fnExactOperatorAritySpec)) fnExactOperatorArityUptoCard

/-- THE SECOND FORM's CARD OF 'laws.FnExactIsValidProgram'. -/
def fnExactIsValidProgramUptoCard : Claim7 := { stood := { row := fnExactIsValidProgramUptoRow, standIns := [], harness := (true, "84397265554fa549e73e99d4324fac3247a6af361dd0e337b77064f2addd6943"), looks := false }, kinds := [], alts := [], laidByText := true, laidKinds := [.data], laidTests := true, laidLooks := .later }
def FnExactIsValidProgramUptoCardSaid : Prop := Claim7.holds Tryd.pinned (.plain (OpenSpec.upto fnExactIsValidProgramSpec)) fnExactIsValidProgramUptoCard

/-- THE SECOND FORM's CARD OF 'laws.FnExactFormatCore'. -/
def fnExactFormatCoreUptoCard : Claim7 := { stood := { row := fnExactFormatCoreUptoRow, standIns := [], harness := (true, "84397265554fa549e73e99d4324fac3247a6af361dd0e337b77064f2addd6943"), looks := false }, kinds := [], alts := [], laidByText := true, laidKinds := [.data, .data], laidTests := true, laidLooks := .later }
def FnExactFormatCoreUptoCardSaid : Prop := Claim7.holds Tryd.pinned (.plain (OpenSpec.upto fnExactFormatCoreSpec)) fnExactFormatCoreUptoCard
end Rows
end Go.Proofs.YtpncmahpcccmlaaDoor
