/-
  DERIVED. GIVEN WITH THE SEED: THE CARDS: each row of YtlbidfegcfcaiaaDoorRows.lean that lists a variable, with what it lists TIED to the program's text (the seventh form; the later family's looks); each row that meets fmt, with fmt's text TOLD by the authors' own Lean function (tested against real Go, not proved from fmt's source: count such statements apart). THE CARD IS WHAT COUNTS. Prove the row's statement (the work); the ties are given (YtlbidfegcfcaiaaDoorTie.lean); close each card by the builder's one call (the guide's Derived/Test/ToyasCard.lean, 'card_holds'). Laid BY PROGRAM, IN A SANDBOX (cutbox-door.mjs). By AI agents, Wed Nov 11 2026. No macro, syntax, notation, axiom, sorry.
-/
import Derived.Test.YtlbidfegcfcaiaaDoorRows
import GoSem.ClaimSeven
namespace Go.Proofs.YtlbidfegcfcaiaaDoor
namespace Rows

/-- THE TIED CARD OF 'laws.FnConversions'. -/
def fnConversionsCard : Claim7 := { stood := { row := fnConversionsRow, standIns := [], harness := (true, "733598d0fc43ef3657e09e1cbd0dac6e010d0f25ed1422911b64d20c2ee84779"), looks := false }, kinds := [], alts := [], laidByText := true, laidKinds := [.data, .pinned], laidTests := true, laidLooks := .later }
def FnConversionsCardSaid : Prop := Claim7.holds Tryd.pinned (.plain (OpenSpec.ofChange fnConversionsSpec)) fnConversionsCard

/-- THE TIED CARD OF 'laws.FnExactToInteger'. -/
def fnExactToIntegerCard : Claim7 := { stood := { row := fnExactToIntegerRow, standIns := [], harness := (true, "733598d0fc43ef3657e09e1cbd0dac6e010d0f25ed1422911b64d20c2ee84779"), looks := false }, kinds := [], alts := [], laidByText := true, laidKinds := [.data, .pinned], laidTests := true, laidLooks := .later }
def FnExactToIntegerCardSaid : Prop := Claim7.holds Tryd.pinned (.plain (OpenSpec.ofChange fnExactToIntegerSpec)) fnExactToIntegerCard

/-- THE SECOND FORM's CARD OF 'laws.FnConversions'. -/
def fnConversionsUptoCard : Claim7 := { stood := { row := fnConversionsUptoRow, standIns := [], harness := (true, "733598d0fc43ef3657e09e1cbd0dac6e010d0f25ed1422911b64d20c2ee84779"), looks := false }, kinds := [], alts := [], laidByText := true, laidKinds := [.data, .pinned], laidTests := true, laidLooks := .later }
def FnConversionsUptoCardSaid : Prop := Claim7.holds Tryd.pinned (.plain (OpenSpec.upto fnConversionsSpec)) fnConversionsUptoCard

/-- THE SECOND FORM's CARD OF 'laws.FnExactToInteger'. -/
def fnExactToIntegerUptoCard : Claim7 := { stood := { row := fnExactToIntegerUptoRow, standIns := [], harness := (true, "733598d0fc43ef3657e09e1cbd0dac6e010d0f25ed1422911b64d20c2ee84779"), looks := false }, kinds := [], alts := [], laidByText := true, laidKinds := [.data, .pinned], laidTests := true, laidLooks := .later }
def FnExactToIntegerUptoCardSaid : Prop := Claim7.holds Tryd.pinned (.plain (OpenSpec.upto fnExactToIntegerSpec)) fnExactToIntegerUptoCard
end Rows
end Go.Proofs.YtlbidfegcfcaiaaDoor
