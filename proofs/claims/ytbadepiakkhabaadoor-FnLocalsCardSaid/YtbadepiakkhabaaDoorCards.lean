/-
  DERIVED. GIVEN WITH THE SEED: THE CARDS: each row of YtbadepiakkhabaaDoorRows.lean that lists a variable, with what it lists TIED to the program's text (the seventh form; the later family's looks); each row that meets fmt, with fmt's text TOLD by the authors' own Lean function (tested against real Go, not proved from fmt's source: count such statements apart). THE CARD IS WHAT COUNTS. Prove the row's statement (the work); the ties are given (YtbadepiakkhabaaDoorTie.lean); close each card by the builder's one call (the guide's Derived/Test/ToyasCard.lean, 'card_holds'). Laid BY PROGRAM, IN A SANDBOX (cutbox-door.mjs). By AI agents, Wed Nov 11 2026. No macro, syntax, notation, axiom, sorry.
-/
import Derived.Test.YtbadepiakkhabaaDoorRows
import GoSem.ClaimSeven
namespace Go.Proofs.YtbadepiakkhabaaDoor
namespace Rows

/-- THE TIED CARD OF 'laws.FnExactTypeName'. -/
def fnExactTypeNameCard : Claim7 := { stood := { row := fnExactTypeNameRow, standIns := [], harness := (true, "3bf510de117d07cf9f2521bdefa9334cef491d9198a27a6bb1b5e82c5030cab9"), looks := false }, kinds := [], alts := [], laidByText := true, laidKinds := [.data], laidTests := true, laidLooks := .later }
def FnExactTypeNameCardSaid : Prop := Claim7.holds Tryd.pinned (.plain (OpenSpec.ofChange fnExactTypeNameSpec)) fnExactTypeNameCard

/-- THE TIED CARD OF 'laws.FnExactIsValidProgram'. -/
def fnExactIsValidProgramCard : Claim7 := { stood := { row := fnExactIsValidProgramRow, standIns := [], harness := (true, "3bf510de117d07cf9f2521bdefa9334cef491d9198a27a6bb1b5e82c5030cab9"), looks := false }, kinds := [], alts := [], laidByText := true, laidKinds := [.data], laidTests := true, laidLooks := .later }
def FnExactIsValidProgramCardSaid : Prop := Claim7.holds Tryd.pinned (.plain (OpenSpec.ofChange fnExactIsValidProgramSpec)) fnExactIsValidProgramCard

/-- THE TIED CARD OF 'laws.FnLocals'. -/
def fnLocalsCard : Claim7 := { stood := { row := fnLocalsRow, standIns := [], harness := (true, "3bf510de117d07cf9f2521bdefa9334cef491d9198a27a6bb1b5e82c5030cab9"), looks := false }, kinds := [], alts := [], laidByText := true, laidKinds := [.data], laidTests := true, laidLooks := .later }
def FnLocalsCardSaid : Prop := Claim7.holds Tryd.pinned (.plain (OpenSpec.ofChange fnLocalsSpec)) fnLocalsCard

/-- THE SECOND FORM's CARD OF 'laws.FnExactTypeName'. -/
def fnExactTypeNameUptoCard : Claim7 := { stood := { row := fnExactTypeNameUptoRow, standIns := [], harness := (true, "3bf510de117d07cf9f2521bdefa9334cef491d9198a27a6bb1b5e82c5030cab9"), looks := false }, kinds := [], alts := [], laidByText := true, laidKinds := [.data], laidTests := true, laidLooks := .later }
def FnExactTypeNameUptoCardSaid : Prop := Claim7.holds Tryd.pinned (.plain (OpenSpec.upto fnExactTypeNameSpec)) fnExactTypeNameUptoCard

/-- THE SECOND FORM's CARD OF 'laws.FnExactIsValidProgram'. -/
def fnExactIsValidProgramUptoCard : Claim7 := { stood := { row := fnExactIsValidProgramUptoRow, standIns := [], harness := (true, "3bf510de117d07cf9f2521bdefa9334cef491d9198a27a6bb1b5e82c5030cab9"), looks := false }, kinds := [], alts := [], laidByText := true, laidKinds := [.data], laidTests := true, laidLooks := .later }
def FnExactIsValidProgramUptoCardSaid : Prop := Claim7.holds Tryd.pinned (.plain (OpenSpec.upto fnExactIsValidProgramSpec)) fnExactIsValidProgramUptoCard

/-- THE SECOND FORM's CARD OF 'laws.FnLocals'. -/
def fnLocalsUptoCard : Claim7 := { stood := { row := fnLocalsUptoRow, standIns := [], harness := (true, "3bf510de117d07cf9f2521bdefa9334cef491d9198a27a6bb1b5e82c5030cab9"), looks := false }, kinds := [], alts := [], laidByText := true, laidKinds := [.data], laidTests := true, laidLooks := .later }
def FnLocalsUptoCardSaid : Prop := Claim7.holds Tryd.pinned (.plain (OpenSpec.upto fnLocalsSpec)) fnLocalsUptoCard
end Rows
end Go.Proofs.YtbadepiakkhabaaDoor
