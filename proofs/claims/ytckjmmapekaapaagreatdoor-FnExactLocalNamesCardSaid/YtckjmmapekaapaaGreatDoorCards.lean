/-
  DERIVED. GIVEN WITH THE SEED: THE CARDS: each row of YtckjmmapekaapaaGreatDoorRows.lean that lists a variable, with what it lists TIED to the program's text (the seventh form; the later family's looks); each row that meets fmt, with fmt's text TOLD by the authors' own Lean function (tested against real Go, not proved from fmt's source: count such statements apart). THE CARD IS WHAT COUNTS. Prove the row's statement (the work); the ties are given (YtckjmmapekaapaaGreatDoorTie.lean); close each card by the builder's one call (the guide's Derived/Test/ToyasCard.lean, 'card_holds'). Laid BY PROGRAM, IN A SANDBOX (cutbox-door.mjs). By AI agents, Wed Nov 11 2026. No macro, syntax, notation, axiom, sorry.
-/
import Derived.Test.YtckjmmapekaapaaGreatDoorRows
import GoSem.ClaimSeven
namespace Go.Proofs.YtckjmmapekaapaaGreatDoor
namespace Rows

/-- THE TIED CARD OF 'laws.FnExactLocalNames'. -/
def fnExactLocalNamesCard : Claim7 := { stood := { row := fnExactLocalNamesRow, standIns := [], harness := (true, "e2e6916ec73a76327fa4ee4127867d7da3e2f633690c80af9c200a8f76654c57"), looks := false }, kinds := [], alts := [], laidByText := true, laidKinds := [.data], laidTests := true, laidLooks := .later }
def FnExactLocalNamesCardSaid : Prop := Claim7.holds Tryz.pinned (.plain (OpenSpec.ofChange fnExactLocalNamesSpec)) fnExactLocalNamesCard

/-- THE TIED CARD OF 'laws.FnExactCheckUnit'. -/
def fnExactCheckUnitCard : Claim7 := { stood := { row := fnExactCheckUnitRow, standIns := [], harness := (true, "e2e6916ec73a76327fa4ee4127867d7da3e2f633690c80af9c200a8f76654c57"), looks := false }, kinds := [], alts := [], laidByText := true, laidKinds := [.data], laidTests := true, laidLooks := .later }
def FnExactCheckUnitCardSaid : Prop := Claim7.holds Tryz.pinned (.plain (OpenSpec.ofChange fnExactCheckUnitSpec)) fnExactCheckUnitCard

/-- THE SECOND FORM's CARD OF 'laws.FnExactLocalNames'. -/
def fnExactLocalNamesUptoCard : Claim7 := { stood := { row := fnExactLocalNamesUptoRow, standIns := [], harness := (true, "e2e6916ec73a76327fa4ee4127867d7da3e2f633690c80af9c200a8f76654c57"), looks := false }, kinds := [], alts := [], laidByText := true, laidKinds := [.data], laidTests := true, laidLooks := .later }
def FnExactLocalNamesUptoCardSaid : Prop := Claim7.holds Tryz.pinned (.plain (OpenSpec.upto fnExactLocalNamesSpec)) fnExactLocalNamesUptoCard

/-- THE SECOND FORM's CARD OF 'laws.FnExactCheckUnit'. -/
def fnExactCheckUnitUptoCard : Claim7 := { stood := { row := fnExactCheckUnitUptoRow, standIns := [], harness := (true, "e2e6916ec73a76327fa4ee4127867d7da3e2f633690c80af9c200a8f76654c57"), looks := false }, kinds := [], alts := [], laidByText := true, laidKinds := [.data], laidTests := true, laidLooks := .later }
def FnExactCheckUnitUptoCardSaid : Prop := Claim7.holds Tryz.pinned (.plain (OpenSpec.upto fnExactCheckUnitSpec)) fnExactCheckUnitUptoCard
end Rows
end Go.Proofs.YtckjmmapekaapaaGreatDoor
